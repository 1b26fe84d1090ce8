/- Plain facts: the tokens of a source are balanced, token by token. Nothing of the program is in it. -/
import Derived.Test.YtmceiehnfmgioaaGreatDoorMk
import Derived.Lib.IndexMore
namespace Go.Proofs.YtmceiehnfmgioaaGreatDoor
open Go
set_option linter.unusedVariables false

def noDbl : List UInt8 → Bool
  | a :: b :: r => !(a == 32 && b == 32) && noDbl (b :: r)
  | _ => true
def isFirst (k : Nat) : Bool := k == 0 || k == 1 || k == 2
/-- A token behind others: how many braces are open, the kind of the token ahead (0: none), whether it was a run that ends with a blank. -/
def stepB (s : Nat × Nat × Bool) (t : Tok) : Option (Nat × Nat × Bool) :=
  if t.kind = 1 ∨ t.kind = 2 then (if s.1 = 0 ∧ s.2.2 = false then some (0, t.kind, false) else none)
  else if t.kind = 3 then (if s.1 + 1 ≤ 16 then some (s.1 + 1, 3, false) else none)
  else if t.kind = 4 then (if s.1 ≠ 0 then some (s.1, 4, false) else none)
  else if t.kind = 5 then (if 1 ≤ s.1 then some (s.1 - 1, 5, false) else none)
  else if t.kind = 6 then (if t.text ≠ [] ∧ noDbl t.text = true ∧ (isFirst s.2.1 = true → t.text.head? ≠ some 32) ∧ s.2.1 ≠ 6 then some (s.1, 6, t.text.getLast? == some 32) else none)
  else none
def runB : List Tok → Nat × Nat × Bool → Option (Nat × Nat × Bool)
  | [], s => some s
  | t :: r, s => (stepB s t).bind (runB r)
theorem runB_app (a b : List Tok) (s : Nat × Nat × Bool) : runB (a ++ b) s = (runB a s).bind (runB b) := by
  induction a generalizing s with
  | nil => rfl
  | cons t r ih => simp only [List.cons_append, runB]; cases stepB s t with | none => rfl | some q => exact ih q
theorem noDbl_snoc : ∀ (r : List UInt8) (c : UInt8), noDbl r = true → (r.getLast? ≠ some 32 ∨ c ≠ 32) → noDbl (r ++ [c]) = true
  | [], c, _, _ => rfl
  | [a], c, _, h => by
    simp [noDbl]
    rcases h with h | h
    · exact .inl (by simpa using h)
    · exact .inr h
  | a :: b :: r, c, h, hc => by
    simp only [noDbl, Bool.and_eq_true] at h
    simp only [List.cons_append, noDbl, Bool.and_eq_true]
    refine ⟨h.1, ?_⟩
    exact noDbl_snoc (b :: r) c h.2 (by simpa [List.getLast?_cons_cons] using hc)
theorem index_dbl : ∀ (l : List UInt8), noDbl l = true → Lib.index l [32, 32] = -1
  | [], _ => rfl
  | [a], _ => by simp [Lib.index, List.isPrefixOf]
  | a :: b :: r, h => by
    simp only [noDbl, Bool.and_eq_true] at h
    have ih := index_dbl (b :: r) h.2
    have hp : List.isPrefixOf [32, 32] (a :: b :: r) = false := by
      have h1 := h.1
      simp only [Bool.not_eq_true', Bool.and_eq_false_iff, beq_eq_false_iff_ne] at h1
      simp only [List.isPrefixOf, Bool.and_true, Bool.and_eq_false_iff, beq_eq_false_iff_ne]
      rcases h1 with h1 | h1
      · exact .inl (fun e => h1 e.symm)
      · exact .inr (fun e => h1 e.symm)
    unfold Lib.index
    rw [hp, ih]
    rfl
theorem contains_dbl (l : List UInt8) (h : noDbl l = true) : Lib.contains l [32, 32] = false := by
  unfold Lib.contains
  rw [index_dbl l h]
  rfl

/-- What holds of the lexer between two characters, with so many braces open. -/
structure Br (m : Mk) (d : Nat) : Prop where
  pk : ∃ k, runB m.out (0, 0, false) = some (d, k, false) ∧ k ≠ 6 ∧ (isFirst k = true → m.run.head? ≠ some 32 ∧ (m.run = [] → m.parts = false))
  dbl : noDbl m.run = true
  last : m.run.getLast? ≠ some 32
  fresh : m.parts = false → m.gap = none ∧ m.run = []

theorem Br.zero : Br Mk.zero 0 := ⟨⟨0, rfl, by decide, fun _ => ⟨by simp [Mk.zero], fun _ => rfl⟩⟩, rfl, by simp [Mk.zero], fun _ => ⟨rfl, rfl⟩⟩
theorem head_app {a b : List UInt8} (h : a ≠ []) : (a ++ b).head? = a.head? := by
  cases a with
  | nil => exact absurd rfl h
  | cons x r => rfl
theorem Br.gather {m : Mk} {d : Nat} (h : Br m d) {c : UInt8} (hc : c ≠ 32) (p : Nat × Nat) : Br (m.gather [c] p) d := by
  obtain ⟨⟨k, h1, h2, h3⟩, h4, h5, h6⟩ := h
  refine ⟨⟨k, h1, h2, fun hk => ⟨?_, fun e => absurd e (by simp [Mk.gather])⟩⟩, noDbl_snoc _ _ h4 (.inr hc), by simp [Mk.gather]; exact hc, fun e => by simp [Mk.gather] at e⟩
  by_cases h0 : m.run = []
  · simp [Mk.gather, h0]; exact hc
  · show (m.run ++ [c]).head? ≠ some 32
    rw [head_app h0]; exact (h3 hk).1
/-- A blank is laid: what holds then. -/
theorem Br.filled {m : Mk} {d : Nat} (h : Br m d) : ∃ k, runB m.fill.out (0, 0, false) = some (d, k, false) ∧ k ≠ 6 ∧ noDbl m.fill.run = true ∧ (isFirst k = true → m.fill.run.head? ≠ some 32) ∧ m.fill.gap = none := by
  obtain ⟨⟨k, h1, h2, h3⟩, h4, h5, h6⟩ := h
  cases hg : m.gap with
  | none =>
    have e : m.fill = m := by unfold Mk.fill; rw [hg]
    rw [e]
    exact ⟨k, h1, h2, h4, fun hk => (h3 hk).1, hg⟩
  | some p =>
    have e : m.fill = { m.gather [32] p with gap := none } := by unfold Mk.fill; rw [hg]
    rw [e]
    have hp : m.parts = true := by
      cases hq : m.parts with
      | true => rfl
      | false => have := (h6 hq).1; rw [hg] at this; cases this
    refine ⟨k, h1, h2, noDbl_snoc _ _ h4 (.inl h5), fun hk => ?_, rfl⟩
    have h0 : m.run ≠ [] := fun e => by have := (h3 hk).2 e; rw [hp] at this; cases this
    show (m.run ++ [32]).head? ≠ some 32
    rw [head_app h0]; exact (h3 hk).1
theorem Br.char {m : Mk} {d : Nat} (h : Br m d) {c : UInt8} (hc : c ≠ 32) (p : Nat × Nat) : Br (m.char [c] p) d := by
  obtain ⟨k, h1, h2, h4, h3, hg⟩ := h.filled
  refine ⟨⟨k, h1, h2, fun hk => ⟨?_, fun e => absurd e (by simp [Mk.char, Mk.gather])⟩⟩, noDbl_snoc _ _ h4 (.inr hc), by simp [Mk.char, Mk.gather]; exact hc, fun e => by simp [Mk.char, Mk.gather] at e⟩
  by_cases h0 : m.fill.run = []
  · simp [Mk.char, Mk.gather, h0]; exact hc
  · show (m.fill.run ++ [c]).head? ≠ some 32
    rw [head_app h0]; exact h3 hk
theorem Br.blank {m : Mk} {d : Nat} (h : Br m d) (p : Nat × Nat) : Br (m.blank p) d := by
  unfold Mk.blank
  split
  · rename_i hc
    simp only [Bool.and_eq_true] at hc
    exact ⟨h.pk, h.dbl, h.last, fun e => by rw [show m.parts = true from hc.1] at e; cases e⟩
  · exact h
theorem Br.opn {m : Mk} {d : Nat} (h : Br m d) (o : List Tok) : Br { m with opn := o } d := ⟨h.pk, h.dbl, h.last, h.fresh⟩
theorem stepB_mid (d k : Nat) (sp : Bool) (t : Tok) (ht : t.kind = 3 ∨ t.kind = 4 ∨ t.kind = 5) : stepB (d, k, sp) t = stepB (d, 0, false) t := by
  unfold stepB
  rcases ht with e | e | e <;> rw [e] <;> simp
/-- A token within a paragraph. -/
theorem Br.within {m : Mk} {d d' : Nat} (h : Br m d) (k : Nat) (name : List UInt8) (p : Nat × Nat) (hk : k = 3 ∨ k = 4 ∨ k = 5) (hs : stepB (d, 0, false) ⟨k, name, [], p.1, p.2⟩ = some (d', k, false)) :
    runB (m.within k name p).out (0, 0, false) = some (d', k, false) ∧ (m.within k name p).run = [] ∧ (m.within k name p).gap = none := by
  obtain ⟨q, h1, h2, h4, h3, hg⟩ := h.filled
  by_cases h0 : m.fill.run = []
  · have e : m.fill.endRun = m.fill := by unfold Mk.endRun; rw [if_pos h0]
    refine ⟨?_, ?_, ?_⟩
    · show runB (m.fill.endRun.out ++ [_]) _ = _
      rw [e, runB_app, h1]
      show (stepB (d, q, false) _).bind _ = _
      rw [stepB_mid _ _ _ _ hk, hs]; rfl
    · show m.fill.endRun.run = []
      rw [e]; exact h0
    · show m.fill.endRun.gap = none
      rw [e]; exact hg
  · have e : m.fill.endRun = { m.fill with out := m.fill.out ++ [⟨6, [], m.fill.run, m.fill.beg.1, m.fill.beg.2⟩], run := [] } := by unfold Mk.endRun; rw [if_neg h0]
    refine ⟨?_, ?_, ?_⟩
    · show runB (m.fill.endRun.out ++ [_]) _ = _
      rw [e, runB_app]
      show (runB (m.fill.out ++ [_]) _).bind _ = _
      rw [runB_app, h1]
      have h6 : stepB (d, q, false) ⟨6, [], m.fill.run, m.fill.beg.1, m.fill.beg.2⟩ = some (d, 6, m.fill.run.getLast? == some 32) := by
        unfold stepB
        rw [if_neg (by simp), if_neg (by simp), if_neg (by simp), if_neg (by simp), if_pos rfl, if_pos ⟨h0, h4, h3, h2⟩]
      show ((stepB (d, q, false) _).bind (runB [])).bind _ = _
      rw [h6]
      show (stepB (d, 6, _) _).bind _ = _
      rw [stepB_mid _ _ _ _ hk, hs]; rfl
    · show m.fill.endRun.run = []
      rw [e]
    · show m.fill.endRun.gap = none
      rw [e]; exact hg
theorem Br.made {m : Mk} {d k : Nat} (h1 : runB m.out (0, 0, false) = some (d, k, false)) (h2 : m.run = []) (h3 : m.gap = none) (hk : k = 3 ∨ ((k = 4 ∨ k = 5))) : Br m d :=
  ⟨⟨k, h1, by omega, fun hf => by rcases hk with rfl | rfl | rfl <;> simp [isFirst] at hf⟩, by rw [h2]; rfl, by rw [h2]; simp, fun _ => ⟨h3, h2⟩⟩
theorem fill_opn (m : Mk) : m.fill.opn = m.opn := by unfold Mk.fill; cases m.gap <;> rfl
theorem within_opn (m : Mk) (k : Nat) (name : List UInt8) (p : Nat × Nat) : (m.within k name p).opn = m.opn := by
  show m.fill.endRun.opn = _
  unfold Mk.endRun
  split
  · exact fill_opn m
  · exact fill_opn m
theorem char_opn (m : Mk) (s : List UInt8) (p : Nat × Nat) : (m.char s p).opn = m.opn := fill_opn m
theorem blank_opn (m : Mk) (p : Nat × Nat) : (m.blank p).opn = m.opn := by unfold Mk.blank; split <;> rfl
def Bd (m : Mk) : Prop := Br m m.opn.length ∧ m.opn.length ≤ 16
theorem Bd.char {m : Mk} (h : Bd m) {c : UInt8} (hc : c ≠ 32) (p : Nat × Nat) : Bd (m.char [c] p) := by
  unfold Bd; rw [char_opn]; exact ⟨h.1.char hc p, h.2⟩
theorem Bd.blank {m : Mk} (h : Bd m) (p : Nat × Nat) : Bd (m.blank p) := by
  unfold Bd; rw [blank_opn]; exact ⟨h.1.blank p, h.2⟩
theorem Bd.bar {m : Mk} (h : Bd m) (h0 : m.opn ≠ []) (p : Nat × Nat) : Bd (m.within 4 [] p) := by
  have hl : m.opn.length ≠ 0 := fun e => h0 (List.length_eq_zero_iff.1 e)
  obtain ⟨h1, h2, h3⟩ := h.1.within 4 [] p (.inr (.inl rfl)) (d' := m.opn.length) (by unfold stepB; simp [hl])
  unfold Bd; rw [within_opn]; exact ⟨Br.made h1 h2 h3 (.inr (.inl rfl)), h.2⟩
theorem Bd.close {m : Mk} (h : Bd m) (h0 : m.opn ≠ []) (p : Nat × Nat) : Bd (m.closeB p) := by
  have hl : m.opn.length ≠ 0 := fun e => h0 (List.length_eq_zero_iff.1 e)
  obtain ⟨h1, h2, h3⟩ := (h.1.opn m.opn.dropLast).within 5 [] p (.inr (.inr rfl)) (d' := m.opn.length - 1) (by unfold stepB; simp; omega)
  have e : (m.closeB p).opn.length = m.opn.length - 1 := by unfold Mk.closeB; rw [within_opn]; simp
  unfold Bd; rw [e]; exact ⟨Br.made h1 h2 h3 (.inr (.inr rfl)), by have := h.2; omega⟩
theorem Bd.openB {m : Mk} (h : Bd m) (h0 : m.opn.length < 16) (name : List UInt8) (p : Nat × Nat) : Bd (m.openB name p) := by
  obtain ⟨h1, h2, h3⟩ := (h.1.opn (m.opn ++ [⟨3, name, [], p.1, p.2⟩])).within 3 name p (.inl rfl) (d' := m.opn.length + 1) (by unfold stepB; simp; omega)
  have e : (m.openB name p).opn.length = m.opn.length + 1 := by
    show (({ m with opn := m.opn ++ [⟨3, name, [], p.1, p.2⟩] } : Mk).within 3 name p).opn.length = _
    rw [within_opn]; simp
  unfold Bd; rw [e]; exact ⟨Br.made (m := m.openB name p) h1 h2 h3 (.inl rfl), by omega⟩
theorem special_ne {d : UInt8} (h : special d = true) : d ≠ 32 := by rintro rfl; exact absurd h (by decide)
theorem isB_ne {d : UInt8} (h : isB d = false) : d ≠ 32 := by rintro rfl; exact absurd h (by decide)
theorem textM_bd (n : Nat) : ∀ (l : List UInt8) (col k : Nat) (m m' : Mk), Bd m → textM n l col k m = .ok m' → Bd m'
  | [], _, _, m, m', hb, h => by unfold textM at h; cases h; exact hb
  | _ :: r, col, k + 1, m, m', hb, h => by unfold textM at h; exact textM_bd n r _ _ m m' hb h
  | c :: r, col, 0, m, m', hb, h => by
    unfold textM at h
    by_cases c1 : isB c = true
    · rw [if_pos c1] at h; exact textM_bd n r _ _ _ m' (hb.blank _) h
    rw [if_neg c1] at h
    by_cases c2 : (c == 92) = true
    · rw [if_pos c2] at h
      cases hr : r.head? with
      | none => rw [hr] at h; cases h
      | some e =>
        rw [hr] at h
        dsimp only at h
        by_cases c3 : special e = true
        · rw [if_pos c3] at h; exact textM_bd n r _ _ _ m' (hb.char (special_ne c3) _) h
        · rw [if_neg c3] at h; cases h
    rw [if_neg c2] at h
    by_cases c3 : (c == 123) = true
    · rw [if_pos c3] at h
      by_cases c4 : named (letL r) (r.drop (letL r).length) [32, 9, 124, 125] = true
      · rw [if_pos c4] at h
        by_cases c5 : 16 ≤ m.opn.length
        · rw [if_pos c5] at h; cases h
        · rw [if_neg c5] at h; exact textM_bd n r _ _ _ m' (hb.openB (by omega) _ _) h
      · rw [if_neg c4] at h; cases h
    rw [if_neg c3] at h
    by_cases c4 : (c == 125) = true
    · rw [if_pos c4] at h
      by_cases c5 : m.opn = []
      · rw [if_pos c5] at h; cases h
      · rw [if_neg c5] at h; exact textM_bd n r _ _ _ m' (hb.close c5 _) h
    rw [if_neg c4] at h
    by_cases c5 : (c == 124 && !m.opn.isEmpty) = true
    · rw [if_pos c5] at h
      simp only [Bool.and_eq_true, Bool.not_eq_true', List.isEmpty_eq_false_iff] at c5
      exact textM_bd n r _ _ _ m' (hb.bar c5.2 _) h
    · rw [if_neg c5] at h; exact textM_bd n r _ _ _ m' (hb.char (isB_ne (by simpa using c1)) _) h
/-- A paragraph's end. -/
theorem Bd.ended {m m' : Mk} (h : Bd m) (he : m.endPara = .ok m') : m'.opn = [] ∧ m'.run = [] ∧ m'.gap = none ∧ m'.parts = false ∧ ∃ k, runB m'.out (0, 0, false) = some (0, k, false) := by
  unfold Mk.endPara at he
  cases hq : m.opn.getLast? with
  | some t => rw [hq] at he; cases he
  | none =>
    have h0 : m.opn = [] := List.getLast?_eq_none_iff.1 hq
    rw [hq] at he
    cases he
    obtain ⟨⟨k, h1, h2, h3⟩, h4, h5, h6⟩ := h.1
    rw [h0] at h1
    by_cases hr : m.run = []
    · have e : m.endRun = m := by unfold Mk.endRun; rw [if_pos hr]
      rw [e]
      exact ⟨h0, hr, rfl, rfl, k, h1⟩
    · have e : m.endRun = { m with out := m.out ++ [⟨6, [], m.run, m.beg.1, m.beg.2⟩], run := [] } := by unfold Mk.endRun; rw [if_neg hr]
      rw [e]
      refine ⟨h0, rfl, rfl, rfl, 6, ?_⟩
      show runB (m.out ++ [_]) _ = _
      rw [runB_app, h1]
      show (stepB (0, k, false) _).bind _ = _
      have h6 : stepB (0, k, false) ⟨6, [], m.run, m.beg.1, m.beg.2⟩ = some (0, 6, m.run.getLast? == some 32) := by
        unfold stepB
        rw [if_neg (by simp), if_neg (by simp), if_neg (by simp), if_neg (by simp), if_pos rfl, if_pos ⟨hr, h4, fun hk => (h3 hk).1, h2⟩]
      rw [h6]
      have hl : (m.run.getLast? == some 32) = false := beq_eq_false_iff_ne.2 h5
      rw [hl]; rfl
theorem Bd.whole {m m' : Mk} (h : Bd m) {k : Nat} (hk : k = 1 ∨ k = 2) {name text : List UInt8} {n : Nat} (he : m.whole k name text n = .ok m') : Bd m' := by
  unfold Mk.whole at he
  cases hq : m.endPara with
  | error e => rw [hq] at he; cases he
  | ok m1 =>
    rw [hq] at he
    cases he
    obtain ⟨h1, h2, h3, h4, q, h5⟩ := h.ended hq
    have e : m1.endRun = m1 := by unfold Mk.endRun; rw [if_pos h2]
    have hp : m1.put k name text (n, 1) = { m1 with out := m1.out ++ [⟨k, name, text, n, 1⟩] } := by unfold Mk.put; rw [e]
    rw [hp]
    refine ⟨⟨⟨k, ?_, by omega, fun _ => ⟨by show m1.run.head? ≠ _; rw [h2]; simp, fun _ => h4⟩⟩, by show noDbl m1.run = true; rw [h2]; rfl, by show m1.run.getLast? ≠ _; rw [h2]; simp, fun _ => ⟨h3, h2⟩⟩, by show m1.opn.length ≤ 16; rw [h1]; simp⟩
    show runB (m1.out ++ [_]) _ = some (m1.opn.length, _, _)
    rw [h1, runB_app, h5]
    show (stepB (0, q, false) _).bind _ = _
    have h6 : stepB (0, q, false) ⟨k, name, text, n, 1⟩ = some (0, k, false) := by unfold stepB; rw [if_pos hk, if_pos ⟨rfl, rfl⟩]
    rw [h6]; rfl
theorem lineM_bd {n : Nat} {l : List UInt8} {m m' : Mk} (h : Bd m) (he : lineM n l m = .ok m') : Bd m' := by
  unfold lineM at he
  by_cases c1 : 4096 < l.length
  · rw [if_pos c1] at he; cases he
  rw [if_neg c1] at he
  cases hb : badAt l with
  | some a => rw [hb] at he; cases he
  | none =>
    rw [hb] at he
    dsimp only at he
    by_cases c2 : stripL l = []
    · rw [if_pos c2] at he; exact h.whole (.inr rfl) he
    rw [if_neg c2] at he
    by_cases c3 : l.head? = some 35
    · rw [if_pos c3] at he; cases he; exact h
    rw [if_neg c3] at he
    by_cases c4 : l.head? = some 46
    · rw [if_pos c4] at he
      by_cases c5 : named (letL l.tail) (l.tail.drop (letL l.tail).length) [32, 9] = true
      · rw [if_pos c5] at he; exact h.whole (.inl rfl) he
      · rw [if_neg c5] at he; cases he
    rw [if_neg c4] at he
    cases ht : textM n l 1 0 m with
    | error e => rw [ht] at he; cases he
    | ok m1 => rw [ht] at he; cases he; exact (textM_bd n l _ _ _ _ h ht).blank _
theorem linesM_bd : ∀ (ls : List (List UInt8)) (n : Nat) (m m' : Mk), Bd m → linesM ls n m = .ok m' → ∃ k, runB m'.out (0, 0, false) = some (0, k, false)
  | [], n, m, m', h, he => (h.ended he).2.2.2.2
  | l :: r, n, m, m', h, he => by
    unfold linesM at he
    cases hl : lineM n l m with
    | error e => rw [hl] at he; cases he
    | ok m1 => rw [hl] at he; exact linesM_bd r _ m1 m' (lineM_bd h hl) he
theorem lexM_br {l : List UInt8} {ts : List Tok} (h : lexM l = .ok ts) : ∃ k, runB ts (0, 0, false) = some (0, k, false) := by
  unfold lexM at h
  by_cases c : 65536 < l.length
  · rw [if_pos c] at h; cases h
  rw [if_neg c] at h
  cases hq : linesM (lines l) 1 Mk.zero with
  | error e => rw [hq] at h; cases h
  | ok m => rw [hq] at h; cases h; exact linesM_bd _ _ _ _ ⟨Br.zero, Nat.zero_le _⟩ hq
/-- How long runs are at most. -/
def Wt (m : Mk) (c : Nat) : Prop := (∀ t ∈ m.out, t.kind = 6 → t.text.length ≤ c) ∧ m.run.length + (if m.gap.isSome then 1 else 0) ≤ c
theorem Wt.mono {m : Mk} {c d : Nat} (h : Wt m c) (hd : c ≤ d) : Wt m d := ⟨fun t ht hk => Nat.le_trans (h.1 t ht hk) hd, Nat.le_trans h.2 hd⟩
theorem Wt.fill {m : Mk} {c : Nat} (h : Wt m c) : Wt m.fill c ∧ m.fill.run.length ≤ c ∧ m.fill.gap = none := by
  cases hg : m.gap with
  | none =>
    have e : m.fill = m := by unfold Mk.fill; rw [hg]
    rw [e]
    exact ⟨h, by have := h.2; omega, hg⟩
  | some p =>
    have e : m.fill = { m.gather [32] p with gap := none } := by unfold Mk.fill; rw [hg]
    have h2 := h.2
    rw [hg] at h2
    have hl : m.fill.run.length ≤ c := by rw [e]; show (m.run ++ [32]).length ≤ c; simp at h2 ⊢; exact h2
    refine ⟨⟨?_, ?_⟩, hl, by rw [e]⟩
    · rw [e]; exact h.1
    · have hn : m.fill.gap = none := by rw [e]
      rw [hn]; simpa using hl
theorem Wt.char {m : Mk} {c : Nat} (h : Wt m c) (x : UInt8) (p : Nat × Nat) : Wt (m.char [x] p) (c + 1) := by
  obtain ⟨h1, h2, h3⟩ := h.fill
  refine ⟨fun t ht hk => Nat.le_succ_of_le (h1.1 t ht hk), ?_⟩
  show (m.fill.run ++ [x]).length + (if m.fill.gap.isSome then 1 else 0) ≤ c + 1
  rw [h3]; simp; exact h2
theorem Wt.blank {m : Mk} {c : Nat} (h : Wt m c) (p : Nat × Nat) : Wt (m.blank p) (c + 1) := by
  unfold Mk.blank
  split
  · rename_i hc
    simp only [Bool.and_eq_true, Option.isNone_iff_eq_none] at hc
    refine ⟨fun t ht hk => Nat.le_succ_of_le (h.1 t ht hk), ?_⟩
    have := h.2
    rw [hc.2] at this
    simp at this ⊢; exact this
  · exact h.mono (Nat.le_succ c)
theorem endRun_wt {m : Mk} {c : Nat} (h : Wt m c) : (∀ t ∈ m.endRun.out, t.kind = 6 → t.text.length ≤ c) ∧ m.endRun.run = [] ∧ m.endRun.gap = m.gap := by
  unfold Mk.endRun
  split
  · rename_i h0
    exact ⟨h.1, h0, rfl⟩
  · refine ⟨fun t ht hk => ?_, rfl, rfl⟩
    rcases List.mem_append.1 ht with h1 | h1
    · exact h.1 t h1 hk
    · rw [List.mem_singleton.1 h1]
      show m.run.length ≤ c
      have := h.2; omega
theorem Wt.put {m : Mk} {c : Nat} (h : Wt m c) (k : Nat) (hk : k ≠ 6) (name text : List UInt8) (p : Nat × Nat) : Wt (m.put k name text p) c := by
  obtain ⟨h1, h2, h3⟩ := endRun_wt h
  refine ⟨fun t ht h6 => ?_, ?_⟩
  · rcases List.mem_append.1 ht with q | q
    · exact h1 t q h6
    · rw [List.mem_singleton.1 q] at h6; exact absurd h6 hk
  · show m.endRun.run.length + (if m.endRun.gap.isSome then 1 else 0) ≤ c
    rw [h2, h3]
    have := h.2
    simp only [List.length_nil]; omega
theorem Wt.within {m : Mk} {c : Nat} (h : Wt m c) (k : Nat) (hk : k ≠ 6) (name : List UInt8) (p : Nat × Nat) : Wt (m.within k name p) c := (h.fill.1.put k hk name [] p)
theorem Wt.opn {m : Mk} {c : Nat} (h : Wt m c) (o : List Tok) : Wt { m with opn := o } c := h
theorem textM_wt (n : Nat) : ∀ (l : List UInt8) (col k : Nat) (m m' : Mk) (w : Nat), Wt m w → textM n l col k m = .ok m' → Wt m' (w + l.length)
  | [], _, _, m, m', w, hb, h => by unfold textM at h; cases h; exact hb
  | _ :: r, col, k + 1, m, m', w, hb, h => by unfold textM at h; exact (textM_wt n r _ _ m m' w hb h).mono (by simp)
  | c :: r, col, 0, m, m', w, hb, h => by
    have e1 : w + (c :: r).length = w + 1 + r.length := by simp; omega
    rw [e1]
    unfold textM at h
    by_cases c1 : isB c = true
    · rw [if_pos c1] at h; exact textM_wt n r _ _ _ m' _ (hb.blank _) h
    rw [if_neg c1] at h
    by_cases c2 : (c == 92) = true
    · rw [if_pos c2] at h
      cases hr : r.head? with
      | none => rw [hr] at h; cases h
      | some e =>
        rw [hr] at h
        dsimp only at h
        by_cases c3 : special e = true
        · rw [if_pos c3] at h; exact textM_wt n r _ _ _ m' _ (hb.char _ _) h
        · rw [if_neg c3] at h; cases h
    rw [if_neg c2] at h
    by_cases c3 : (c == 123) = true
    · rw [if_pos c3] at h
      by_cases c4 : named (letL r) (r.drop (letL r).length) [32, 9, 124, 125] = true
      · rw [if_pos c4] at h
        by_cases c5 : 16 ≤ m.opn.length
        · rw [if_pos c5] at h; cases h
        · rw [if_neg c5] at h; exact textM_wt n r _ _ _ m' _ (Wt.mono (m := m.openB (letL r) (n, col)) (Wt.within (hb.opn _) 3 (by decide) _ _) (Nat.le_succ w)) h
      · rw [if_neg c4] at h; cases h
    rw [if_neg c3] at h
    by_cases c4 : (c == 125) = true
    · rw [if_pos c4] at h
      by_cases c5 : m.opn = []
      · rw [if_pos c5] at h; cases h
      · rw [if_neg c5] at h; exact textM_wt n r _ _ _ m' _ (Wt.mono (m := m.closeB (n, col)) (Wt.within (hb.opn _) 5 (by decide) _ _) (Nat.le_succ w)) h
    rw [if_neg c4] at h
    by_cases c5 : (c == 124 && !m.opn.isEmpty) = true
    · rw [if_pos c5] at h
      exact textM_wt n r _ _ _ m' _ ((hb.within 4 (by decide) _ _).mono (Nat.le_succ w)) h
    · rw [if_neg c5] at h; exact textM_wt n r _ _ _ m' _ (hb.char _ _) h
theorem ended_wt {m m' : Mk} {c : Nat} (h : Wt m c) (he : m.endPara = .ok m') : Wt m' c := by
  unfold Mk.endPara at he
  cases hq : m.opn.getLast? with
  | some t => rw [hq] at he; cases he
  | none =>
    rw [hq] at he
    cases he
    obtain ⟨h1, h2, h3⟩ := endRun_wt h
    refine ⟨h1, ?_⟩
    show m.endRun.run.length + 0 ≤ c
    rw [h2]; simp
theorem whole_wt {m m' : Mk} {c k : Nat} (h : Wt m c) (hk : k ≠ 6) {name text : List UInt8} {n : Nat} (he : m.whole k name text n = .ok m') : Wt m' c := by
  unfold Mk.whole at he
  cases hq : m.endPara with
  | error e => rw [hq] at he; cases he
  | ok m1 => rw [hq] at he; cases he; exact (ended_wt h hq).put k hk _ _ _
theorem lineM_wt {n : Nat} {l : List UInt8} {m m' : Mk} {c : Nat} (h : Wt m c) (he : lineM n l m = .ok m') : Wt m' (c + 4097) := by
  unfold lineM at he
  by_cases c1 : 4096 < l.length
  · rw [if_pos c1] at he; cases he
  rw [if_neg c1] at he
  cases hb : badAt l with
  | some a => rw [hb] at he; cases he
  | none =>
    rw [hb] at he
    dsimp only at he
    by_cases c2 : stripL l = []
    · rw [if_pos c2] at he; exact (whole_wt h (by decide) he).mono (by omega)
    rw [if_neg c2] at he
    by_cases c3 : l.head? = some 35
    · rw [if_pos c3] at he; cases he; exact h.mono (by omega)
    rw [if_neg c3] at he
    by_cases c4 : l.head? = some 46
    · rw [if_pos c4] at he
      by_cases c5 : named (letL l.tail) (l.tail.drop (letL l.tail).length) [32, 9] = true
      · rw [if_pos c5] at he; exact (whole_wt h (by decide) he).mono (by omega)
      · rw [if_neg c5] at he; cases he
    rw [if_neg c4] at he
    cases ht : textM n l 1 0 m with
    | error e => rw [ht] at he; cases he
    | ok m1 => rw [ht] at he; cases he; exact ((textM_wt n l _ _ _ _ _ h ht).blank _).mono (by omega)
theorem linesM_wt : ∀ (ls : List (List UInt8)) (n : Nat) (m m' : Mk) (c : Nat), Wt m c → linesM ls n m = .ok m' → Wt m' (c + 4097 * ls.length)
  | [], n, m, m', c, h, he => ended_wt h he
  | l :: r, n, m, m', c, h, he => by
    unfold linesM at he
    cases hl : lineM n l m with
    | error e => rw [hl] at he; cases he
    | ok m1 => rw [hl] at he; exact (linesM_wt r _ m1 m' _ (lineM_wt h hl) he).mono (by simp; omega)
theorem linesF_len : ∀ (f : Nat) (l : List UInt8), (linesF f l).length ≤ f
  | 0, _ => Nat.zero_le _
  | f + 1, l => by
    unfold linesF
    split
    · exact Nat.zero_le _
    · have := linesF_len f (cutNL l).2
      simp; exact this
theorem lexM_wt {l : List UInt8} {ts : List Tok} (h : lexM l = .ok ts) : ∀ t ∈ ts, t.kind = 6 → t.text.length ≤ 270000000 := by
  unfold lexM at h
  by_cases c : 65536 < l.length
  · rw [if_pos c] at h; cases h
  rw [if_neg c] at h
  cases hq : linesM (lines l) 1 Mk.zero with
  | error e => rw [hq] at h; cases h
  | ok m =>
    rw [hq] at h; cases h
    have h1 := linesM_wt _ _ _ _ 0 (show Wt Mk.zero 0 from ⟨fun t ht => absurd ht (by simp [Mk.zero]), Nat.le_refl 0⟩) hq
    have h2 := linesF_len l.length l
    intro t ht hk
    have h3 := h1.1 t ht hk
    have h4 : (lines l).length ≤ 65536 := by unfold lines; omega
    omega
theorem runB_at {ts : List Tok} {k : Nat} {t : Tok} {s e : Nat × Nat × Bool} (ht : ts[k]? = some t) (h : runB (ts.drop k) s = some e) : ∃ s', stepB s t = some s' ∧ runB (ts.drop (k + 1)) s' = some e := by
  have hk : k < ts.length := by
    by_cases hk : k < ts.length
    · exact hk
    · rw [List.getElem?_eq_none (by omega)] at ht; cases ht
  have hd : ts.drop k = t :: ts.drop (k + 1) := by
    rw [List.drop_eq_getElem_cons hk]
    rw [List.getElem?_eq_getElem hk] at ht
    rw [Option.some.inj ht]
  rw [hd] at h
  unfold runB at h
  cases hs : stepB s t with
  | none => rw [hs] at h; cases h
  | some s' => rw [hs] at h; exact ⟨s', rfl, h⟩
/-- A run at a paragraph's end does not end with a blank. -/
theorem last_at {ts : List Tok} {k : Nat} {s e : Nat × Nat × Bool} (h : runB (ts.drop (k + 1)) s = some e) (he : e.2.2 = false) (hL : k + 1 = ts.length ∨ ∃ t, ts[k + 1]? = some t ∧ (t.kind = 1 ∨ t.kind = 2)) : s.2.2 = false := by
  rcases hL with hL | ⟨t, ht, hk⟩
  · rw [List.drop_eq_nil_iff.2 (by omega)] at h
    unfold runB at h
    rw [Option.some.inj h]; exact he
  · obtain ⟨s', h1, _⟩ := runB_at ht h
    unfold stepB at h1
    rw [if_pos hk] at h1
    by_cases c : s.1 = 0 ∧ s.2.2 = false
    · exact c.2
    · rw [if_neg c] at h1; cases h1
end Go.Proofs.YtmceiehnfmgioaaGreatDoor
