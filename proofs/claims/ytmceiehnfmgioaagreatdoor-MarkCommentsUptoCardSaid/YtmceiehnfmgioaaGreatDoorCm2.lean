/- Plain facts: a comment as a line ahead of any line of a source; where lines begin. Nothing of the program is in it. -/
import Derived.Test.YtmceiehnfmgioaaGreatDoorCmt
import Derived.Test.YtmceiehnfmgioaaGreatDoorBk
namespace Go.Proofs.YtmceiehnfmgioaaGreatDoor
open Go
set_option linter.unusedVariables false

theorem comment_line {c : List UInt8} (h : PlainL c) (hl : c.length ≤ 4095) (n : Nat) (m : Mk) : lineM n (35 :: c) m = .ok m := by
  have hb : badAt (35 :: c) = none := by
    obtain ⟨L, h1, rfl, h3⟩ := plain_pieces h
    have e : (35 :: joinT L : List UInt8) = joinT (.good 35 :: L) := rfl
    rw [e]
    refine pieces_bad ⟨.inl (by omega), h1⟩ fun t ht => ?_
    rcases List.mem_cons.1 ht with rfl | ht
    · exact ⟨rfl, by decide⟩
    · exact h3 t ht
  unfold lineM
  rw [if_neg (by simp; omega), hb]
  dsimp only
  rw [if_neg (strip_head (by decide)), if_pos (show (35 :: c).head? = some 35 from rfl)]
theorem chop_comment {c : List UInt8} (h : PlainL c) : chop (35 :: c) = 35 :: c := by
  unfold chop
  rw [if_neg]
  intro e
  have := List.mem_of_getLast? e
  rcases List.mem_cons.1 this with h1 | h1
  · cases h1
  · have := plain_bytes h _ h1; exact absurd this (by decide)
theorem lexM_comment {a b c : List UInt8} {ts : List Tok} (hs : lexM (a ++ b) = .ok ts) (ha : a = [] ∨ a.getLast? = some 10) (hp : PlainL c) (hc : c.length ≤ 4095) (hl : (a ++ b).length + c.length + 2 ≤ 65536) :
    lexM (a ++ (35 :: c ++ 10 :: b)) = .ok (ts.map (shT (later ((lines a).length + 1)))) := by
  unfold lexM at hs ⊢
  rw [if_neg (by omega)] at hs
  rw [if_neg (by simp at hl ⊢; omega)]
  have e1 : lines (a ++ b) = lines a ++ lines b := lines_cut b a.length a (Nat.le_refl _) ha
  have e2 : lines (a ++ (35 :: c ++ 10 :: b)) = lines a ++ (35 :: c) :: lines b := by
    rw [lines_cut _ a.length a (Nat.le_refl _) ha, lines_cons (35 :: c ++ 10 :: b) (by simp), cutNL_mid (35 :: c) b (fun x hx => by
      rcases List.mem_cons.1 hx with rfl | hx
      · decide
      · intro e; have := plain_bytes hp x hx; rw [e] at this; exact absurd this (by decide))]
    show lines a ++ chop (35 :: c) :: lines b = _
    rw [chop_comment hp]
  rw [e1] at hs
  rw [e2]
  cases h1 : linesM (lines a ++ lines b) 1 Mk.zero with
  | error e => rw [h1] at hs; cases hs
  | ok r =>
    rw [h1] at hs
    cases hs
    obtain ⟨r', g1, g2⟩ := linesM_comment (comment_line hp hc) h1
    rw [g1]
    show Except.ok r'.out = _
    rw [g2]
/-- Where lines begin, behind so many bytes. -/
def begG : List UInt8 → Nat → List Nat
  | [], _ => []
  | c :: r, i => (if c = 10 then [i + 1] else []) ++ begG r (i + 1)
def begs (l : List UInt8) : List Nat := 0 :: begG l 0
theorem begG_len : ∀ (l : List UInt8) (i : Nat), (begG l i).length ≤ l.length
  | [], _ => Nat.le_refl _
  | c :: r, i => by
    have ih := begG_len r (i + 1)
    unfold begG
    rw [List.length_append, List.length_cons]
    split <;> simp <;> omega
theorem begG_at : ∀ (r : List UInt8) (i k b : Nat), (begG r i)[k]? = some b → ∃ j, b = i + j ∧ 1 ≤ j ∧ j ≤ r.length ∧ r[j - 1]? = some 10 ∧ (r.take j).count 10 = k + 1
  | [], i, k, b, h => by simp [begG] at h
  | c :: r, i, k, b, h => by
    have ih := begG_at r (i + 1)
    unfold begG at h
    by_cases hc : c = 10
    · subst hc
      rw [if_pos rfl] at h
      cases k with
      | zero =>
        simp at h; subst h
        exact ⟨1, rfl, Nat.le_refl _, by simp, rfl, by simp⟩
      | succ k =>
        obtain ⟨j, h1, h2, h3, h4, h5⟩ := ih k b (by simpa using h)
        obtain ⟨j', rfl⟩ : ∃ j', j = j' + 1 := ⟨j - 1, by omega⟩
        refine ⟨j' + 1 + 1, by omega, by omega, by simp; omega, by simpa using h4, ?_⟩
        rw [List.take_succ_cons, List.count_cons, h5]
        simp
    · rw [if_neg hc] at h
      obtain ⟨j, h1, h2, h3, h4, h5⟩ := ih k b (by simpa using h)
      obtain ⟨j', rfl⟩ : ∃ j', j = j' + 1 := ⟨j - 1, by omega⟩
      refine ⟨j' + 1 + 1, by omega, by omega, by simp; omega, by simpa using h4, ?_⟩
      rw [List.take_succ_cons, List.count_cons, h5]
      simp [hc]
theorem lines_count : ∀ (n : Nat) (a : List UInt8), a.length ≤ n → (a = [] ∨ a.getLast? = some 10) → (lines a).length = a.count 10
  | 0, a, hn, ha => by
    obtain rfl := List.eq_nil_of_length_eq_zero (by omega : a.length = 0)
    rfl
  | n + 1, a, hn, ha => by
    rcases ha with rfl | ha
    · rfl
    have hm : (10 : UInt8) ∈ a := List.mem_of_getLast? ha
    obtain ⟨p, q, rfl, hp⟩ := List.eq_append_cons_of_mem hm
    have hp' : ∀ x ∈ p, x ≠ 10 := fun x hx e => hp (e ▸ hx)
    rw [lines_cons _ (by simp), cutNL_mid p _ hp', List.length_cons, List.count_append, List.count_cons, List.count_eq_zero.2 hp]
    have ih : (lines q).length = q.count 10 := by
      refine lines_count n q (by simp at hn; omega) ?_
      by_cases hq : q = []
      · exact .inl hq
      · right
        rw [List.getLast?_append, List.getLast?_cons_of_ne_nil hq] at ha
        cases hg : q.getLast? with
        | none => exact absurd (List.getLast?_eq_none_iff.1 hg) hq
        | some z => rw [hg] at ha; exact ha
    rw [show (lines q).length = q.count 10 from ih]
    simp
theorem begs_at {l : List UInt8} {k b : Nat} (h : (begs l)[k]? = some b) : b ≤ l.length ∧ (l.take b = [] ∨ (l.take b).getLast? = some 10) ∧ (lines (l.take b)).length = k := by
  have key : b ≤ l.length ∧ (l.take b = [] ∨ (l.take b).getLast? = some 10) ∧ (l.take b).count 10 = k := by
    unfold begs at h
    cases k with
    | zero => simp at h; subst h; exact ⟨Nat.zero_le _, .inl rfl, rfl⟩
    | succ k =>
      obtain ⟨j, h1, h2, h3, h4, h5⟩ := begG_at l 0 k b (by simpa using h)
      obtain rfl : b = j := by omega
      refine ⟨h3, .inr ?_, h5⟩
      rw [List.getLast?_eq_getElem?, List.length_take, Nat.min_eq_left h3, List.getElem?_take_of_lt (by omega)]
      exact h4
  exact ⟨key.1, key.2.1, (lines_count _ _ (Nat.le_refl _) key.2.1).trans key.2.2⟩
theorem begs_len (l : List UInt8) : (begs l).length ≤ l.length + 1 := by have := begG_len l 0; unfold begs; simp; omega
end Go.Proofs.YtmceiehnfmgioaaGreatDoor
