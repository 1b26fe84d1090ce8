/- Plain facts: a source's lines under other numbers, behind other tokens: the same tokens under those numbers. Nothing of the program is in it. -/
import Derived.Test.YtmceiehnfmgioaaGreatDoorLxh
namespace Go.Proofs.YtmceiehnfmgioaaGreatDoor
open Go
set_option linter.unusedVariables false

def shT (f : Nat → Nat) (t : Tok) : Tok := { t with line := f t.line }
def shP (f : Nat → Nat) (p : Nat × Nat) : Nat × Nat := (f p.1, p.2)
structure Sim (f : Nat → Nat) (P : List Tok) (m m' : Mk) : Prop where
  out : m'.out = P ++ m.out.map (shT f)
  opn : m'.opn = m.opn.map (shT f)
  run : m'.run = m.run
  beg : m.run ≠ [] → m'.beg = shP f m.beg
  gap : m'.gap = m.gap.map (shP f)
  parts : m'.parts = m.parts
section
variable {f : Nat → Nat} {P : List Tok} {m m' : Mk}
theorem Sim.gather (h : Sim f P m m') (s : List UInt8) (p : Nat × Nat) : Sim f P (m.gather s p) (m'.gather s (shP f p)) := by
  refine ⟨h.out, h.opn, by show m'.run ++ s = m.run ++ s; rw [h.run], fun _ => ?_, h.gap, rfl⟩
  show (if m'.run = [] then shP f p else m'.beg) = shP f (if m.run = [] then p else m.beg)
  rw [h.run]
  by_cases h0 : m.run = []
  · rw [if_pos h0, if_pos h0]
  · rw [if_neg h0, if_neg h0]; exact h.beg h0
theorem Sim.fill (h : Sim f P m m') : Sim f P m.fill m'.fill := by
  cases hg : m.gap with
  | none =>
    have hg' : m'.gap = none := by rw [h.gap, hg]; rfl
    have e : m.fill = m := by unfold Mk.fill; rw [hg]
    have e' : m'.fill = m' := by unfold Mk.fill; rw [hg']
    rw [e, e']; exact h
  | some p =>
    have hg' : m'.gap = some (shP f p) := by rw [h.gap, hg]; rfl
    have e : m.fill = { m.gather [32] p with gap := none } := by unfold Mk.fill; rw [hg]
    have e' : m'.fill = { m'.gather [32] (shP f p) with gap := none } := by unfold Mk.fill; rw [hg']
    rw [e, e']
    have hs := h.gather [32] p
    exact ⟨hs.out, hs.opn, hs.run, hs.beg, rfl, hs.parts⟩
theorem Sim.char (h : Sim f P m m') (s : List UInt8) (p : Nat × Nat) : Sim f P (m.char s p) (m'.char s (shP f p)) := h.fill.gather s p
theorem Sim.endRun (h : Sim f P m m') : Sim f P m.endRun m'.endRun := by
  unfold Mk.endRun
  by_cases h0 : m.run = []
  · rw [if_pos h0, if_pos (by rw [h.run]; exact h0)]; exact h
  · rw [if_neg h0, if_neg (by rw [h.run]; exact h0)]
    refine ⟨?_, h.opn, rfl, fun e => absurd rfl e, h.gap, h.parts⟩
    show m'.out ++ [⟨6, [], m'.run, m'.beg.1, m'.beg.2⟩] = P ++ (m.out ++ [_]).map (shT f)
    rw [h.out, h.run, h.beg h0, List.map_append, List.append_assoc]
    rfl
theorem Sim.put (h : Sim f P m m') (k : Nat) (name text : List UInt8) (p : Nat × Nat) : Sim f P (m.put k name text p) (m'.put k name text (shP f p)) := by
  have hs := h.endRun
  refine ⟨?_, hs.opn, hs.run, hs.beg, hs.gap, hs.parts⟩
  show m'.endRun.out ++ [_] = P ++ (m.endRun.out ++ [_]).map (shT f)
  rw [hs.out, List.map_append, List.append_assoc]
  rfl
theorem Sim.within (h : Sim f P m m') (k : Nat) (name : List UInt8) (p : Nat × Nat) : Sim f P (m.within k name p) (m'.within k name (shP f p)) := by
  have hs := h.fill.put k name [] p
  exact ⟨hs.out, hs.opn, hs.run, hs.beg, hs.gap, rfl⟩
theorem Sim.blank (h : Sim f P m m') (p : Nat × Nat) : Sim f P (m.blank p) (m'.blank (shP f p)) := by
  have hc : (m'.parts && m'.gap.isNone) = (m.parts && m.gap.isNone) := by rw [h.parts, h.gap]; cases m.gap <;> rfl
  unfold Mk.blank
  rw [hc]
  by_cases c : (m.parts && m.gap.isNone) = true
  · rw [if_pos c, if_pos c]
    exact ⟨h.out, h.opn, h.run, h.beg, rfl, h.parts⟩
  · rw [if_neg c, if_neg c]; exact h
theorem Sim.openB (h : Sim f P m m') (name : List UInt8) (p : Nat × Nat) : Sim f P (m.openB name p) (m'.openB name (shP f p)) := by
  have h1 : Sim f P { m with opn := m.opn ++ [⟨3, name, [], p.1, p.2⟩] } { m' with opn := m'.opn ++ [⟨3, name, [], (shP f p).1, (shP f p).2⟩] } :=
    ⟨h.out, by show m'.opn ++ [_] = (m.opn ++ [_]).map (shT f); rw [h.opn, List.map_append]; rfl, h.run, h.beg, h.gap, h.parts⟩
  have hs := h1.within 3 name p
  exact ⟨hs.out, hs.opn, hs.run, hs.beg, hs.gap, rfl⟩
theorem Sim.closeB (h : Sim f P m m') (p : Nat × Nat) : Sim f P (m.closeB p) (m'.closeB (shP f p)) := by
  have h1 : Sim f P { m with opn := m.opn.dropLast } { m' with opn := m'.opn.dropLast } :=
    ⟨h.out, by show m'.opn.dropLast = m.opn.dropLast.map (shT f); rw [h.opn, List.map_dropLast], h.run, h.beg, h.gap, h.parts⟩
  exact h1.within 5 [] p
theorem Sim.endPara (h : Sim f P m m') {r : Mk} (he : m.endPara = .ok r) : ∃ r', m'.endPara = .ok r' ∧ Sim f P r r' := by
  unfold Mk.endPara at he ⊢
  cases hq : m.opn.getLast? with
  | some t => rw [hq] at he; cases he
  | none =>
    have h0 : m.opn = [] := List.getLast?_eq_none_iff.1 hq
    have hq' : m'.opn.getLast? = none := by rw [h.opn, h0]; rfl
    rw [hq] at he
    cases he
    rw [hq']
    have hs := h.endRun
    exact ⟨_, rfl, ⟨hs.out, hs.opn, hs.run, hs.beg, rfl, rfl⟩⟩
theorem Sim.whole (h : Sim f P m m') {k n : Nat} {name text : List UInt8} {r : Mk} (he : m.whole k name text n = .ok r) : ∃ r', m'.whole k name text (f n) = .ok r' ∧ Sim f P r r' := by
  unfold Mk.whole at he ⊢
  cases hq : m.endPara with
  | error e => rw [hq] at he; cases he
  | ok m1 =>
    rw [hq] at he
    cases he
    obtain ⟨m1', e1, h1⟩ := h.endPara hq
    rw [e1]
    exact ⟨_, rfl, h1.put k name text (n, 1)⟩
end
theorem textM_sim {f : Nat → Nat} {P : List Tok} (n : Nat) : ∀ (l : List UInt8) (col k : Nat) (m m' r : Mk), Sim f P m m' → textM n l col k m = .ok r → ∃ r', textM (f n) l col k m' = .ok r' ∧ Sim f P r r'
  | [], _, _, m, m', r, hb, h => by unfold textM at h ⊢; cases h; exact ⟨_, rfl, hb⟩
  | _ :: s, col, k + 1, m, m', r, hb, h => by unfold textM at h ⊢; exact textM_sim n s _ _ m m' r hb h
  | c :: s, col, 0, m, m', r, hb, h => by
    have IH := fun (k : Nat) (a a' : Mk) (ha : Sim f P a a') (ht : textM n s (col + 1) k a = .ok r) => textM_sim n s (col + 1) k a a' r ha ht
    unfold textM at h ⊢
    by_cases c1 : isB c = true
    · rw [if_pos c1] at h ⊢; exact IH _ _ _ (hb.blank (n, col)) h
    rw [if_neg c1] at h ⊢
    by_cases c2 : (c == 92) = true
    · rw [if_pos c2] at h ⊢
      cases hr : s.head? with
      | none => rw [hr] at h; cases h
      | some e =>
        rw [hr] at h
        dsimp only at h ⊢
        by_cases c3 : special e = true
        · rw [if_pos c3] at h ⊢; exact IH _ _ _ (hb.char [e] (n, col)) h
        · rw [if_neg c3] at h; cases h
    rw [if_neg c2] at h ⊢
    by_cases c3 : (c == 123) = true
    · rw [if_pos c3] at h ⊢
      by_cases c4 : named (letL s) (s.drop (letL s).length) [32, 9, 124, 125] = true
      · rw [if_pos c4] at h ⊢
        have hl : m'.opn.length = m.opn.length := by rw [hb.opn, List.length_map]
        rw [hl]
        by_cases c5 : 16 ≤ m.opn.length
        · rw [if_pos c5] at h; cases h
        · rw [if_neg c5] at h ⊢; exact IH _ _ _ (hb.openB (letL s) (n, col)) h
      · rw [if_neg c4] at h; cases h
    rw [if_neg c3] at h ⊢
    by_cases c4 : (c == 125) = true
    · rw [if_pos c4] at h ⊢
      by_cases c5 : m.opn = []
      · rw [if_pos c5] at h; cases h
      · rw [if_neg c5] at h
        rw [if_neg (by rw [hb.opn]; intro e; exact c5 (List.map_eq_nil_iff.1 e))]
        exact IH _ _ _ (hb.closeB (n, col)) h
    rw [if_neg c4] at h ⊢
    have hi : m'.opn.isEmpty = m.opn.isEmpty := by rw [hb.opn, List.isEmpty_map]
    rw [hi]
    by_cases c5 : (c == 124 && !m.opn.isEmpty) = true
    · rw [if_pos c5] at h ⊢; exact IH _ _ _ (hb.within 4 [] (n, col)) h
    · rw [if_neg c5] at h ⊢; exact IH _ _ _ (hb.char [c] (n, col)) h
theorem lineM_sim {f : Nat → Nat} {P : List Tok} {n : Nat} {l : List UInt8} {m m' r : Mk} (h : Sim f P m m') (he : lineM n l m = .ok r) : ∃ r', lineM (f n) l m' = .ok r' ∧ Sim f P r r' := by
  unfold lineM at he ⊢
  by_cases c1 : 4096 < l.length
  · rw [if_pos c1] at he; cases he
  rw [if_neg c1] at he ⊢
  cases hb : badAt l with
  | some a => rw [hb] at he; cases he
  | none =>
    rw [hb] at he
    dsimp only at he ⊢
    by_cases c2 : stripL l = []
    · rw [if_pos c2] at he ⊢; exact h.whole he
    rw [if_neg c2] at he ⊢
    by_cases c3 : l.head? = some 35
    · rw [if_pos c3] at he ⊢; cases he; exact ⟨_, rfl, h⟩
    rw [if_neg c3] at he ⊢
    by_cases c4 : l.head? = some 46
    · rw [if_pos c4] at he ⊢
      by_cases c5 : named (letL l.tail) (l.tail.drop (letL l.tail).length) [32, 9] = true
      · rw [if_pos c5] at he ⊢; exact h.whole he
      · rw [if_neg c5] at he; cases he
    rw [if_neg c4] at he ⊢
    cases ht : textM n l 1 0 m with
    | error e => rw [ht] at he; cases he
    | ok m1 =>
      rw [ht] at he; cases he
      obtain ⟨m1', e1, h1⟩ := textM_sim n l 1 0 m m' m1 h ht
      rw [e1]
      exact ⟨_, rfl, h1.blank (n, l.length + 1)⟩
/-- The lines ahead of a paragraph's end. -/
def linesS : List (List UInt8) → Nat → Mk → Except Wr Mk
  | [], _, m => .ok m
  | l :: r, n, m => match lineM n l m with
    | .error e => .error e
    | .ok m' => linesS r (n + 1) m'
theorem linesM_app : ∀ (a b : List (List UInt8)) (n : Nat) (m m1 : Mk), linesS a n m = .ok m1 → linesM (a ++ b) n m = linesM b (n + a.length) m1
  | [], b, n, m, m1, h => by cases h; rfl
  | l :: a, b, n, m, m1, h => by
    unfold linesS at h
    rw [List.cons_append]
    conv => lhs; unfold linesM
    cases hl : lineM n l m with
    | error e => rw [hl] at h; cases h
    | ok m2 =>
      rw [hl] at h
      have ih := linesM_app a b (n + 1) m2 m1 h
      show linesM (a ++ b) (n + 1) m2 = linesM b (n + (l :: a).length) m1
      rw [ih, List.length_cons, show n + 1 + a.length = n + (a.length + 1) by omega]
theorem linesM_parts : ∀ (a : List (List UInt8)) (n : Nat) (m r : Mk), linesM a n m = .ok r → ∃ m1, linesS a n m = .ok m1 ∧ m1.endPara = .ok r
  | [], n, m, r, h => ⟨m, rfl, h⟩
  | l :: a, n, m, r, h => by
    unfold linesM at h
    unfold linesS
    cases hl : lineM n l m with
    | error e => rw [hl] at h; cases h
    | ok m2 => rw [hl] at h; exact linesM_parts a _ m2 r h
theorem linesM_sim {f : Nat → Nat} {P : List Tok} : ∀ (ls : List (List UInt8)) (n : Nat) (m m' r : Mk), (∀ i, i < ls.length → f (n + i) = f n + i) → Sim f P m m' → linesM ls n m = .ok r → ∃ r', linesM ls (f n) m' = .ok r' ∧ Sim f P r r'
  | [], n, m, m', r, hf, hb, h => hb.endPara h
  | l :: s, n, m, m', r, hf, hb, h => by
    unfold linesM at h ⊢
    cases hl : lineM n l m with
    | error e => rw [hl] at h; cases h
    | ok m1 =>
      rw [hl] at h
      obtain ⟨m1', e1, h1⟩ := lineM_sim hb hl
      rw [e1]
      dsimp only
      by_cases hs : s = []
      · subst hs
        exact h1.endPara h
      · have h0 : 0 < s.length := List.length_pos_iff.2 hs
        have e2 : f (n + 1) = f n + 1 := hf 1 (by simp; omega)
        rw [← e2]
        exact linesM_sim s (n + 1) m1 m1' r (fun i hi => by rw [show n + 1 + i = n + (i + 1) by omega, hf (i + 1) (by simp; omega), e2]; omega) h1 h
end Go.Proofs.YtmceiehnfmgioaaGreatDoor
