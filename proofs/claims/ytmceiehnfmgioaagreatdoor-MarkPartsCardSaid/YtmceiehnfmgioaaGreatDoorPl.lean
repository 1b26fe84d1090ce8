/- Plain facts: the tokens of a source stand one behind the other, each within its line. Nothing of the program is in it. -/
import Derived.Test.YtmceiehnfmgioaaGreatDoorLxh
namespace Go.Proofs.YtmceiehnfmgioaaGreatDoor
open Go
set_option linter.unusedVariables false

def ltp (a b : Nat × Nat) : Prop := a.1 < b.1 ∨ (a.1 = b.1 ∧ a.2 < b.2)
theorem ltp_trans {a b c : Nat × Nat} (h : ltp a b) (h' : ltp b c) : ltp a c := by unfold ltp at *; omega
def okP (ls : List (List UInt8)) (p : Nat × Nat) : Prop := 1 ≤ p.1 ∧ 1 ≤ p.2 ∧ ∃ x, ls[p.1 - 1]? = some x ∧ p.2 ≤ x.length + 1
/-- Tokens behind a place, up to the last one's. -/
inductive Row (ls : List (List UInt8)) : List Tok → Nat × Nat → Nat × Nat → Prop
  | nil (s) : Row ls [] s s
  | cons {t r s e} : ltp s (t.line, t.col) → okP ls (t.line, t.col) → Row ls r (t.line, t.col) e → Row ls (t :: r) s e
theorem Row.snoc {ls : List (List UInt8)} {l : List Tok} {s e : Nat × Nat} (h : Row ls l s e) (t : Tok) (h1 : ltp e (t.line, t.col)) (h2 : okP ls (t.line, t.col)) : Row ls (l ++ [t]) s (t.line, t.col) := by
  induction h with
  | nil s => exact .cons h1 h2 (.nil _)
  | cons a b c ih => exact .cons a b (ih h1)
structure Pl (ls : List (List UInt8)) (m : Mk) (s q : Nat × Nat) : Prop where
  row : Row ls m.out (0, 0) s
  lt : ltp s q
  run : m.run ≠ [] → ltp s m.beg ∧ okP ls m.beg ∧ ltp m.beg q
  gap : ∀ p, m.gap = some p → okP ls p ∧ ltp p q ∧ ltp s p
section
variable {ls : List (List UInt8)} {m : Mk} {s q q' : Nat × Nat}
theorem Pl.mono (h : Pl ls m s q) (hq : ltp q q') : Pl ls m s q' :=
  ⟨h.row, ltp_trans h.lt hq, fun hr => ⟨(h.run hr).1, (h.run hr).2.1, ltp_trans (h.run hr).2.2 hq⟩, fun p hp => ⟨(h.gap p hp).1, ltp_trans (h.gap p hp).2.1 hq, (h.gap p hp).2.2⟩⟩
theorem Pl.fill (h : Pl ls m s q) : Pl ls m.fill s q ∧ m.fill.gap = none := by
  cases hg : m.gap with
  | none =>
    have e : m.fill = m := by unfold Mk.fill; rw [hg]
    rw [e]; exact ⟨h, hg⟩
  | some p =>
    have e : m.fill = { m.gather [32] p with gap := none } := by unfold Mk.fill; rw [hg]
    rw [e]
    obtain ⟨g1, g2, g3⟩ := h.gap p hg
    refine ⟨⟨h.row, h.lt, fun _ => ?_, fun p hp => by cases hp⟩, rfl⟩
    show ltp s (if m.run = [] then p else m.beg) ∧ okP ls (if m.run = [] then p else m.beg) ∧ ltp (if m.run = [] then p else m.beg) q
    split
    · exact ⟨g3, g1, g2⟩
    · rename_i h0; exact h.run h0
theorem Pl.char (h : Pl ls m s q) (x : List UInt8) (hx : okP ls q) (hq : ltp q q') : Pl ls (m.char x q) s q' := by
  obtain ⟨h1, h2⟩ := h.fill
  refine ⟨h1.row, ltp_trans h.lt hq, fun _ => ?_, fun p hp => by rw [show (m.char x q).gap = m.fill.gap from rfl, h2] at hp; cases hp⟩
  show ltp s (if m.fill.run = [] then q else m.fill.beg) ∧ okP ls (if m.fill.run = [] then q else m.fill.beg) ∧ ltp (if m.fill.run = [] then q else m.fill.beg) q'
  split
  · exact ⟨h.lt, hx, hq⟩
  · rename_i h0; exact ⟨(h1.run h0).1, (h1.run h0).2.1, ltp_trans (h1.run h0).2.2 hq⟩
theorem Pl.blank (h : Pl ls m s q) (hx : okP ls q) (hq : ltp q q') : Pl ls (m.blank q) s q' := by
  unfold Mk.blank
  split
  · refine ⟨h.row, ltp_trans h.lt hq, (h.mono hq).run, fun p hp => ?_⟩
    obtain rfl := Option.some.inj hp
    exact ⟨hx, hq, h.lt⟩
  · exact h.mono hq
theorem Pl.endRun (h : Pl ls m s q) : ∃ s', Row ls m.endRun.out (0, 0) s' ∧ ltp s' q ∧ m.endRun.run = [] ∧ m.endRun.gap = m.gap := by
  unfold Mk.endRun
  split
  · rename_i h0; exact ⟨s, h.row, h.lt, h0, rfl⟩
  · rename_i h0
    obtain ⟨r1, r2, r3⟩ := h.run h0
    exact ⟨m.beg, h.row.snoc ⟨6, [], m.run, m.beg.1, m.beg.2⟩ r1 r2, r3, rfl, rfl⟩
theorem Pl.within (h : Pl ls m s q) (k : Nat) (name : List UInt8) (hx : okP ls q) (hq : ltp q q') : Pl ls (m.within k name q) q q' := by
  obtain ⟨h1, h2⟩ := h.fill
  obtain ⟨s', e1, e2, e3, e4⟩ := h1.endRun
  refine ⟨e1.snoc ⟨k, name, [], q.1, q.2⟩ e2 hx, hq, fun hr => absurd e3 hr, fun p hp => ?_⟩
  rw [show (m.within k name q).gap = m.fill.endRun.gap from rfl, e4, h2] at hp
  cases hp
theorem Pl.opn (h : Pl ls m s q) (o : List Tok) : Pl ls { m with opn := o } s q := ⟨h.row, h.lt, h.run, h.gap⟩
theorem Pl.ended {m' : Mk} (h : Pl ls m s q) (he : m.endPara = .ok m') : ∃ s', Pl ls m' s' q ∧ m'.run = [] ∧ m'.gap = none := by
  unfold Mk.endPara at he
  cases hq : m.opn.getLast? with
  | some t => rw [hq] at he; cases he
  | none =>
    rw [hq] at he
    cases he
    obtain ⟨s', e1, e2, e3, e4⟩ := h.endRun
    exact ⟨s', ⟨e1, e2, fun hr => absurd e3 hr, fun p hp => by cases hp⟩, e3, rfl⟩
theorem Pl.whole {m' : Mk} {n : Nat} (h : Pl ls m s (n, 1)) {k : Nat} {name text : List UInt8} (hx : okP ls (n, 1)) (hq : ltp (n, 1) q') (he : m.whole k name text n = .ok m') : ∃ s', Pl ls m' s' q' := by
  unfold Mk.whole at he
  cases hen : m.endPara with
  | error e => rw [hen] at he; cases he
  | ok m1 =>
    rw [hen] at he
    cases he
    obtain ⟨s', h1, h2, h3⟩ := h.ended hen
    have e : m1.endRun = m1 := by unfold Mk.endRun; rw [if_pos h2]
    have hp : m1.put k name text (n, 1) = { m1 with out := m1.out ++ [⟨k, name, text, n, 1⟩] } := by unfold Mk.put; rw [e]
    rw [hp]
    exact ⟨(n, 1), h1.row.snoc ⟨k, name, text, n, 1⟩ h1.lt hx, hq, fun hr => absurd h2 hr, fun p hp => by rw [show ({ m1 with out := m1.out ++ [⟨k, name, text, n, 1⟩] } : Mk).gap = m1.gap from rfl, h3] at hp; cases hp⟩
end
theorem ltp_col (n c : Nat) : ltp (n, c) (n, c + 1) := .inr ⟨rfl, Nat.lt_succ_self c⟩
theorem textM_pl {ls : List (List UInt8)} {L : List UInt8} (n : Nat) (hn : 1 ≤ n) (hL : ls[n - 1]? = some L) : ∀ (l : List UInt8) (col k : Nat) (m m' : Mk) (s : Nat × Nat), 1 ≤ col → col + l.length = L.length + 1 → Pl ls m s (n, col) → textM n l col k m = .ok m' → ∃ s', Pl ls m' s' (n, L.length + 1)
  | [], col, _, m, m', s, h1, h2, hb, h => by
    unfold textM at h; cases h
    have e : col = L.length + 1 := by simpa using h2
    subst e; exact ⟨s, hb⟩
  | _ :: r, col, k + 1, m, m', s, h1, h2, hb, h => by
    unfold textM at h
    exact textM_pl n hn hL r (col + 1) _ m m' s (by omega) (by simp at h2; omega) (hb.mono (ltp_col n col)) h
  | c :: r, col, 0, m, m', s, h1, h2, hb, h => by
    have h3 : col + 1 + r.length = L.length + 1 := by simp at h2; omega
    have hx : okP ls (n, col) := ⟨hn, h1, L, hL, by show col ≤ L.length + 1; omega⟩
    have hq := ltp_col n col
    have IH := fun (k : Nat) (mm : Mk) (ss : Nat × Nat) (hp : Pl ls mm ss (n, col + 1)) (ht : textM n r (col + 1) k mm = .ok m') => textM_pl n hn hL r (col + 1) k mm m' ss (by omega) h3 hp ht
    unfold textM at h
    by_cases c1 : isB c = true
    · rw [if_pos c1] at h; exact IH _ _ _ (hb.blank hx hq) h
    rw [if_neg c1] at h
    by_cases c2 : (c == 92) = true
    · rw [if_pos c2] at h
      cases hr : r.head? with
      | none => rw [hr] at h; cases h
      | some e =>
        rw [hr] at h
        dsimp only at h
        by_cases c3 : special e = true
        · rw [if_pos c3] at h; exact IH _ _ _ (hb.char [e] hx hq) h
        · rw [if_neg c3] at h; cases h
    rw [if_neg c2] at h
    by_cases c3 : (c == 123) = true
    · rw [if_pos c3] at h
      by_cases c4 : named (letL r) (r.drop (letL r).length) [32, 9, 124, 125] = true
      · rw [if_pos c4] at h
        by_cases c5 : 16 ≤ m.opn.length
        · rw [if_pos c5] at h; cases h
        · rw [if_neg c5] at h
          have hw := (hb.opn (m.opn ++ [⟨3, letL r, [], n, col⟩])).within 3 (letL r) hx hq
          exact IH _ (m.openB (letL r) (n, col)) (n, col) ⟨hw.row, hw.lt, hw.run, hw.gap⟩ h
      · rw [if_neg c4] at h; cases h
    rw [if_neg c3] at h
    by_cases c4 : (c == 125) = true
    · rw [if_pos c4] at h
      by_cases c5 : m.opn = []
      · rw [if_pos c5] at h; cases h
      · rw [if_neg c5] at h; exact IH _ _ _ ((hb.opn m.opn.dropLast).within 5 [] hx hq) h
    rw [if_neg c4] at h
    by_cases c5 : (c == 124 && !m.opn.isEmpty) = true
    · rw [if_pos c5] at h; exact IH _ _ _ (hb.within 4 [] hx hq) h
    · rw [if_neg c5] at h; exact IH _ _ _ (hb.char [c] hx hq) h
theorem lineM_pl {ls : List (List UInt8)} {n : Nat} {l : List UInt8} {m m' : Mk} {s : Nat × Nat} (hn : 1 ≤ n) (hL : ls[n - 1]? = some l) (h : Pl ls m s (n, 1)) (he : lineM n l m = .ok m') : ∃ s', Pl ls m' s' (n + 1, 1) := by
  have hx : okP ls (n, 1) := ⟨hn, Nat.le_refl 1, l, hL, by show 1 ≤ l.length + 1; omega⟩
  have hq : ltp (n, 1) (n + 1, 1) := .inl (Nat.lt_succ_self n)
  unfold lineM at he
  by_cases c1 : 4096 < l.length
  · rw [if_pos c1] at he; cases he
  rw [if_neg c1] at he
  cases hb : badAt l with
  | some a => rw [hb] at he; cases he
  | none =>
    rw [hb] at he
    dsimp only at he
    by_cases c2 : stripL l = []
    · rw [if_pos c2] at he; exact h.whole hx hq he
    rw [if_neg c2] at he
    by_cases c3 : l.head? = some 35
    · rw [if_pos c3] at he; cases he; exact ⟨s, h.mono hq⟩
    rw [if_neg c3] at he
    by_cases c4 : l.head? = some 46
    · rw [if_pos c4] at he
      by_cases c5 : named (letL l.tail) (l.tail.drop (letL l.tail).length) [32, 9] = true
      · rw [if_pos c5] at he; exact h.whole hx hq he
      · rw [if_neg c5] at he; cases he
    rw [if_neg c4] at he
    cases ht : textM n l 1 0 m with
    | error e => rw [ht] at he; cases he
    | ok m1 =>
      rw [ht] at he; cases he
      obtain ⟨s', h1⟩ := textM_pl n hn hL l 1 0 m m1 s (Nat.le_refl 1) (by omega) h ht
      exact ⟨s', h1.blank ⟨hn, by show 1 ≤ l.length + 1; omega, l, hL, Nat.le_refl _⟩ (.inl (Nat.lt_succ_self n))⟩
theorem linesM_pl {ls : List (List UInt8)} : ∀ (r : List (List UInt8)) (n : Nat) (m m' : Mk) (s : Nat × Nat), 1 ≤ n → ls.drop (n - 1) = r → Pl ls m s (n, 1) → linesM r n m = .ok m' → ∃ s', Row ls m'.out (0, 0) s'
  | [], n, m, m', s, hn, hr, h, he => by
    obtain ⟨s', h1, _⟩ := h.ended (show m.endPara = .ok m' from he)
    exact ⟨s', h1.row⟩
  | l :: r, n, m, m', s, hn, hr, h, he => by
    have hL : ls[n - 1]? = some l := by
      have h1 : (ls.drop (n - 1))[0]? = some l := by rw [hr]; rfl
      rw [List.getElem?_drop] at h1
      exact h1
    have hr' : ls.drop (n + 1 - 1) = r := by
      have h1 : (ls.drop (n - 1)).drop 1 = r := by rw [hr]; rfl
      rw [List.drop_drop, show n - 1 + 1 = n + 1 - 1 by omega] at h1
      exact h1
    unfold linesM at he
    cases hl : lineM n l m with
    | error e => rw [hl] at he; cases he
    | ok m1 =>
      rw [hl] at he
      obtain ⟨s', h1⟩ := lineM_pl hn hL h hl
      exact linesM_pl r (n + 1) m1 m' s' (by omega) hr' h1 he
theorem lexM_pl {l : List UInt8} {ts : List Tok} (h : lexM l = .ok ts) : (∃ s, Row (lines l) ts (0, 0) s) ∧ l.length ≤ 65536 := by
  unfold lexM at h
  by_cases c : 65536 < l.length
  · rw [if_pos c] at h; cases h
  rw [if_neg c] at h
  cases hq : linesM (lines l) 1 Mk.zero with
  | error e => rw [hq] at h; cases h
  | ok m =>
    rw [hq] at h; cases h
    exact ⟨linesM_pl (lines l) 1 _ _ (0, 0) (Nat.le_refl 1) rfl ⟨.nil _, .inl (by decide), fun hr => absurd rfl hr, fun p hp => by cases hp⟩ hq, by omega⟩
theorem Row.at {ls : List (List UInt8)} {ts : List Tok} {s e : Nat × Nat} (h : Row ls ts s e) : ∀ {k : Nat} {t : Tok}, ts[k]? = some t → okP ls (t.line, t.col) ∧ (∀ j t', k = j + 1 → ts[j]? = some t' → ltp (t'.line, t'.col) (t.line, t.col)) := by
  induction h with
  | nil s => intro k t h; simp at h
  | cons a b c ih =>
    rename_i t0 r s0 e0
    intro k t h
    cases k with
    | zero =>
      simp at h; subst h
      exact ⟨b, fun j t' hj _ => by omega⟩
    | succ k =>
      have h' : r[k]? = some t := by simpa using h
      refine ⟨(ih h').1, fun j t' hj ht' => ?_⟩
      have hjk : j = k := by omega
      subst hjk
      cases j with
      | zero =>
        simp at ht'; subst ht'
        cases c with
        | nil => simp at h'
        | cons a' b' c' => simp at h'; subst h'; exact a'
      | succ i => exact (ih h').2 i t' rfl (by simpa using ht')
end Go.Proofs.YtmceiehnfmgioaaGreatDoor
