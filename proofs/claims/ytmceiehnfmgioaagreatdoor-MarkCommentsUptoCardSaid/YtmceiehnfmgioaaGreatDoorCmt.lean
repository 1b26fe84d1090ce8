/- Plain facts: a line that changes nothing between a source's lines. Nothing of the program is in it. -/
import Derived.Test.YtmceiehnfmgioaaGreatDoorPts
namespace Go.Proofs.YtmceiehnfmgioaaGreatDoor
open Go
set_option linter.unusedVariables false

theorem linesM_split : ∀ (a b : List (List UInt8)) (n : Nat) (m r : Mk), linesM (a ++ b) n m = .ok r → ∃ m1, linesS a n m = .ok m1 ∧ linesM b (n + a.length) m1 = .ok r
  | [], b, n, m, r, h => ⟨m, rfl, h⟩
  | l :: a, b, n, m, r, h => by
    rw [List.cons_append] at h
    unfold linesM at h
    unfold linesS
    cases hl : lineM n l m with
    | error e => rw [hl] at h; cases h
    | ok m2 =>
      rw [hl] at h
      obtain ⟨m1, h1, h2⟩ := linesM_split a b (n + 1) m2 r h
      exact ⟨m1, h1, by rw [List.length_cons, show n + (a.length + 1) = n + 1 + a.length by omega]; exact h2⟩
theorem linesS_sim {f : Nat → Nat} {P : List Tok} : ∀ (ls : List (List UInt8)) (n : Nat) (m m' r : Mk), (∀ i, i < ls.length → f (n + i) = f n + i) → Sim f P m m' → linesS ls n m = .ok r → ∃ r', linesS ls (f n) m' = .ok r' ∧ Sim f P r r'
  | [], n, m, m', r, hf, hb, h => by cases h; exact ⟨m', rfl, hb⟩
  | l :: s, n, m, m', r, hf, hb, h => by
    unfold linesS at h ⊢
    cases hl : lineM n l m with
    | error e => rw [hl] at h; cases h
    | ok m1 =>
      rw [hl] at h
      obtain ⟨m1', e1, h1⟩ := lineM_sim hb hl
      rw [e1]
      dsimp only at h ⊢
      by_cases hs : s = []
      · subst hs
        cases h
        exact ⟨m1', rfl, h1⟩
      · have h0 : 0 < s.length := List.length_pos_iff.2 hs
        have e2 : f (n + 1) = f n + 1 := hf 1 (by simp; omega)
        rw [← e2]
        exact linesS_sim s (n + 1) m1 m1' r (fun i hi => by rw [show n + 1 + i = n + (i + 1) by omega, hf (i + 1) (by simp; omega), e2]; omega) h1 h
/-- Lines from a number on are one further. -/
def later (k i : Nat) : Nat := if k ≤ i then i + 1 else i
theorem linesM_comment {A B : List (List UInt8)} {L : List UInt8} {r : Mk} (hL : ∀ n m, lineM n L m = .ok m) (h : linesM (A ++ B) 1 Mk.zero = .ok r) :
    ∃ r', linesM (A ++ L :: B) 1 Mk.zero = .ok r' ∧ r'.out = r.out.map (shT (later (A.length + 1))) := by
  obtain ⟨m1, h1, h2⟩ := linesM_split A B 1 _ _ h
  have h0 : Sim (later (A.length + 1)) [] Mk.zero Mk.zero := ⟨rfl, rfl, rfl, fun e => absurd rfl e, rfl, rfl⟩
  have hs : Sim (later (A.length + 1)) [] m1 m1 := by
    by_cases hA : A = []
    · subst hA; cases h1; exact h0
    · have hl : 0 < A.length := List.length_pos_iff.2 hA
      have f1 : later (A.length + 1) 1 = 1 := by unfold later; rw [if_neg (by omega)]
      obtain ⟨r', e1, e2⟩ := linesS_sim A 1 _ _ m1 (fun i hi => by rw [f1]; unfold later; rw [if_neg (by omega)]) h0 h1
      rw [f1, h1] at e1
      cases e1
      exact e2
  have f2 : later (A.length + 1) (1 + A.length) = 1 + A.length + 1 := by unfold later; rw [if_pos (by omega)]
  obtain ⟨r', e1, e2⟩ := linesM_sim B (1 + A.length) m1 m1 r (fun i hi => by rw [f2]; unfold later; rw [if_pos (by omega)]; omega) hs h2
  refine ⟨r', ?_, by rw [e2.out]; rfl⟩
  rw [linesM_app A (L :: B) 1 _ _ h1]
  conv => lhs; unfold linesM
  rw [hL]
  rw [f2] at e1
  exact e1
/-- What a line's end closes stands apart from what follows. -/
theorem lines_cut (c : List UInt8) : ∀ (n : Nat) (a : List UInt8), a.length ≤ n → (a = [] ∨ a.getLast? = some 10) → lines (a ++ c) = lines a ++ lines c
  | 0, a, hn, ha => by
    obtain rfl := List.eq_nil_of_length_eq_zero (by omega : a.length = 0)
    rfl
  | n + 1, a, hn, ha => by
    rcases ha with rfl | ha
    · rfl
    have hm : (10 : UInt8) ∈ a := List.mem_of_getLast? ha
    obtain ⟨p, q, rfl, hp⟩ := List.eq_append_cons_of_mem hm
    have hp' : ∀ x ∈ p, x ≠ 10 := fun x hx e => hp (e ▸ hx)
    have e1 : (p ++ 10 :: q) ++ c = p ++ 10 :: (q ++ c) := by simp
    rw [e1, lines_cons _ (by simp), cutNL_mid p _ hp', lines_cons (p ++ 10 :: q) (by simp), cutNL_mid p _ hp', List.cons_append]
    have ih : lines (q ++ c) = lines q ++ lines c := by
      refine lines_cut c n q (by simp at hn; omega) ?_
      by_cases hq : q = []
      · exact .inl hq
      · right
        rw [List.getLast?_append, List.getLast?_cons_of_ne_nil hq] at ha
        cases hg : q.getLast? with
        | none => exact absurd (List.getLast?_eq_none_iff.1 hg) hq
        | some z => rw [hg] at ha; exact ha
    rw [show lines (q ++ c) = lines q ++ lines c from ih]
end Go.Proofs.YtmceiehnfmgioaaGreatDoor
