/- Plain facts: two sources, a blank line between them. Nothing of the program is in it. -/
import Derived.Test.YtmceiehnfmgioaaGreatDoorSim
import Derived.Test.YtmceiehnfmgioaaGreatDoorLns
namespace Go.Proofs.YtmceiehnfmgioaaGreatDoor
open Go
set_option linter.unusedVariables false

theorem lines_app : ∀ (n : Nat) (a c : List UInt8), a.length ≤ n → a ≠ [] → a.getLast? ≠ some 10 → lines (a ++ 10 :: c) = lines a ++ lines c
  | 0, a, c, hn, ha, _ => absurd (List.eq_nil_of_length_eq_zero (by omega)) ha
  | n + 1, a, c, hn, ha, hl => by
    by_cases hm : (10 : UInt8) ∈ a
    · obtain ⟨p, q, rfl, hp⟩ := List.eq_append_cons_of_mem hm
      have hp' : ∀ x ∈ p, x ≠ 10 := fun x hx e => hp (e ▸ hx)
      have hq : q ≠ [] := by
        rintro rfl
        simp at hl
      have hl' : q.getLast? ≠ some 10 := by
        rw [List.getLast?_append, List.getLast?_cons_of_ne_nil hq] at hl
        intro e; rw [e] at hl; exact hl rfl
      have e1 : (p ++ 10 :: q) ++ 10 :: c = p ++ 10 :: (q ++ 10 :: c) := by simp
      rw [e1, lines_cons _ (by simp), cutNL_mid p _ hp', lines_cons (p ++ 10 :: q) (by simp), cutNL_mid p _ hp', List.cons_append]
      rw [show lines (q ++ 10 :: c) = lines q ++ lines c from lines_app n q c (by simp at hn; omega) hq hl']
    · have ha' : ∀ x ∈ a, x ≠ 10 := fun x hx e => hm (e ▸ hx)
      rw [lines_cons _ (by simp), cutNL_mid a c ha', lines_cons a ha, cutNL_end a ha', lines_nil]
      rfl
theorem endPara_facts {m r : Mk} (he : m.endPara = .ok r) : r.opn = [] ∧ r.run = [] ∧ r.gap = none ∧ r.parts = false := by
  unfold Mk.endPara at he
  cases hq : m.opn.getLast? with
  | some t => rw [hq] at he; cases he
  | none =>
    have h0 : m.opn = [] := List.getLast?_eq_none_iff.1 hq
    rw [hq] at he
    cases he
    refine ⟨?_, ?_, rfl, rfl⟩
    · show m.endRun.opn = []
      unfold Mk.endRun; split
      · exact h0
      · exact h0
    · show m.endRun.run = []
      unfold Mk.endRun; split
      · assumption
      · rfl
theorem lexM_parts {a b : List UInt8} {x y : List Tok} (hx : lexM a = .ok x) (hy : lexM b = .ok y) (ha : a ≠ []) (hl : a.getLast? ≠ some 10) (hlen : a.length + 2 + b.length ≤ 65536) :
    lexM (a ++ 10 :: 10 :: b) = .ok (x ++ [⟨2, [], [], (lines a).length + 1, 1⟩] ++ y.map (shT (· + ((lines a).length + 1)))) := by
  unfold lexM at hx hy ⊢
  rw [if_neg (by omega)] at hx hy
  rw [if_neg (by simp; omega)]
  cases h1 : linesM (lines a) 1 Mk.zero with
  | error e => rw [h1] at hx; cases hx
  | ok r =>
    rw [h1] at hx
    cases hx
    cases h2 : linesM (lines b) 1 Mk.zero with
    | error e => rw [h2] at hy; cases hy
    | ok r2 =>
      rw [h2] at hy
      cases hy
      obtain ⟨m1, e1, e2⟩ := linesM_parts _ _ _ _ h1
      obtain ⟨f1, f2, f3, f4⟩ := endPara_facts e2
      have e3 : lines (a ++ 10 :: 10 :: b) = lines a ++ ([] :: lines b) := by
        rw [lines_app a.length a (10 :: b) (Nat.le_refl _) ha hl, lines_cons (10 :: b) (by simp), show cutNL (10 :: b) = ([], b) from cutNL_mid [] b (fun x hx => by cases hx)]
        rfl
      rw [e3, linesM_app _ _ _ _ _ e1]
      have e4 : r.endRun = r := by unfold Mk.endRun; rw [if_pos f2]
      have e5 : lineM (1 + (lines a).length) [] m1 = .ok (r.put 2 [] [] (1 + (lines a).length, 1)) := by
        unfold lineM
        rw [if_neg (by simp)]
        show (if stripL [] = [] then _ else _) = _
        rw [if_pos (show stripL [] = [] from rfl)]
        unfold Mk.whole
        rw [e2]
      have e6 : r.put 2 [] [] (1 + (lines a).length, 1) = { r with out := r.out ++ [⟨2, [], [], 1 + (lines a).length, 1⟩] } := by unfold Mk.put; rw [e4]
      have hs : Sim (· + ((lines a).length + 1)) (r.out ++ [⟨2, [], [], 1 + (lines a).length, 1⟩]) Mk.zero (r.put 2 [] [] (1 + (lines a).length, 1)) := by
        rw [e6]
        exact ⟨by simp [Mk.zero], f1, f2, fun h => absurd rfl h, f3, f4⟩
      obtain ⟨r', g1, g2⟩ := linesM_sim (lines b) 1 _ _ r2 (fun i _ => by show 1 + i + _ = 1 + _ + i; omega) hs h2
      conv => lhs; unfold linesM
      rw [e5]
      have e7 : 1 + (lines a).length + 1 = 1 + ((lines a).length + 1) := by omega
      show Except.map (fun x => x.out) (linesM (lines b) (1 + (lines a).length + 1) _) = _
      rw [e7, g1]
      show Except.ok r'.out = _
      rw [g2.out, Nat.add_comm 1 (lines a).length]
end Go.Proofs.YtmceiehnfmgioaaGreatDoor
