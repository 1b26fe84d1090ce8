/- Plain mathematics: a source's lines; how many tokens a line makes. -/
import Derived.Test.YtmceiehnfmgioaaGreatDoorLxf
import Derived.Test.YtmceiehnfmgioaaGreatDoorLxg
namespace Go.Proofs.YtmceiehnfmgioaaGreatDoor
open Go
set_option linter.unusedVariables false

theorem cut_nl : ∀ l : List UInt8, (Lib.cut l [10]).1 = (cutNL l).1 ∧ (Lib.cut l [10]).2.1 = (cutNL l).2
  | [] => ⟨rfl, rfl⟩
  | b :: l => by
    obtain ⟨h1, h2⟩ := cut_nl l
    have e := index_cons b 10 l
    have hge := Lib.index_ge l [10]
    unfold Lib.cut at h1 h2 ⊢
    unfold cutNL at h1 h2 ⊢
    by_cases hb : b = 10
    · rw [if_pos hb] at e
      rw [if_pos (by rw [e]; decide), e]
      subst hb
      exact ⟨rfl, rfl⟩
    · rw [if_neg hb] at e
      have hb' : (b != 10) = true := by simpa using hb
      have t1 : (b :: l).takeWhile (· != 10) = b :: l.takeWhile (· != 10) := by rw [List.takeWhile_cons, if_pos hb']
      have t2 : (b :: l).dropWhile (· != 10) = l.dropWhile (· != 10) := by rw [List.dropWhile_cons, if_pos hb']
      simp only [t1, t2]
      by_cases hm : Lib.index l [10] = -1
      · rw [if_pos hm] at e
        rw [if_neg (by rw [e]; decide)]
        rw [if_neg (by rw [hm]; decide)] at h1 h2
        exact ⟨congrArg (b :: ·) (show l = l.takeWhile (· != 10) from h1), h2⟩
      · rw [if_neg hm] at e
        obtain ⟨i, hi⟩ : ∃ i : Nat, Lib.index l [10] = i := ⟨(Lib.index l [10]).toNat, by omega⟩
        rw [hi] at e
        rw [if_pos (by omega), hi] at h1 h2
        rw [if_pos (by omega), e]
        have ti : ((i : Int) + 1).toNat = i + 1 := by omega
        have ti0 : (i : Int).toNat = i := by omega
        rw [ti]
        rw [ti0] at h1 h2
        exact ⟨congrArg (b :: ·) (show l.take i = l.takeWhile (· != 10) from h1), (show l.drop (i + 1) = (l.dropWhile (· != 10)).drop 1 from h2)⟩
theorem cut_len (l : List UInt8) (h : l ≠ []) : (cutNL l).2.length < l.length ∧ (cutNL l).1.length + (cutNL l).2.length ≤ l.length := by
  unfold cutNL
  have h1 := List.takeWhile_append_dropWhile (p := (· != (10 : UInt8))) (l := l)
  have hl := congrArg List.length h1
  rw [List.length_append] at hl
  have h0 : 0 < l.length := List.length_pos_iff.2 h
  refine ⟨?_, ?_⟩
  · show ((l.dropWhile (· != 10)).drop 1).length < l.length
    rw [List.length_drop]; omega
  · show (l.takeWhile (· != 10)).length + ((l.dropWhile (· != 10)).drop 1).length ≤ l.length
    rw [List.length_drop]; omega
theorem linesF_fuel : ∀ (f f' : Nat) (l : List UInt8), l.length ≤ f → l.length ≤ f' → linesF f l = linesF f' l
  | 0, f', l, h, _ => by
    have : l = [] := List.eq_nil_of_length_eq_zero (by omega)
    subst this
    cases f' <;> rfl
  | f + 1, 0, l, _, h => by
    have : l = [] := List.eq_nil_of_length_eq_zero (by omega)
    subst this
    rfl
  | f + 1, f' + 1, l, h, h' => by
    simp only [linesF]
    by_cases h0 : l = []
    · rw [if_pos h0, if_pos h0]
    · rw [if_neg h0, if_neg h0]
      have := (cut_len l h0).1
      rw [linesF_fuel f f' _ (by omega) (by omega)]
theorem lines_nil : lines [] = [] := rfl
theorem lines_cons (l : List UInt8) (h : l ≠ []) : lines l = chop (cutNL l).1 :: lines (cutNL l).2 := by
  have h0 : 0 < l.length := List.length_pos_iff.2 h
  have hc := (cut_len l h).1
  unfold lines
  obtain ⟨f, hf⟩ : ∃ f, l.length = f + 1 := ⟨l.length - 1, by omega⟩
  rw [hf]
  simp only [linesF]
  rw [if_neg h, linesF_fuel f _ _ (by omega) (Nat.le_refl _)]
theorem chop_eq (l : List UInt8) : Lib.trimSuffix l [13] = chop l := by
  unfold Lib.trimSuffix chop Lib.hasSuffix
  by_cases h : l.getLast? = some 13
  · rw [if_pos h]
    obtain ⟨t, rfl⟩ : ∃ t, l = t ++ [13] := by
      rcases List.eq_nil_or_concat l with rfl | ⟨t, b, rfl⟩
      · simp at h
      · simp at h; subst h; exact ⟨t, by simp⟩
    have hs : [13].isSuffixOf (t ++ [13]) = true := List.isSuffixOf_iff_suffix.2 ⟨t, rfl⟩
    rw [if_pos hs]
    simp
  · rw [if_neg h]
    have hs : [13].isSuffixOf l = false := by
      rw [Bool.eq_false_iff]
      intro hs
      obtain ⟨t, ht⟩ := List.isSuffixOf_iff_suffix.1 hs
      rw [← ht] at h
      simp at h
    rw [hs]
    rfl
theorem chop_len (l : List UInt8) : (chop l).length ≤ l.length := by
  unfold chop
  split
  · rw [List.length_dropLast]; omega
  · exact Nat.le_refl _
theorem whole_cost {m m' : Mk} {k : Nat} {a b : List UInt8} {n : Nat} (h : m.whole k a b n = .ok m') : m'.out.length + m'.run.length ≤ m.out.length + m.run.length + 1 := by
  unfold Mk.whole Mk.endPara at h
  split at h
  · cases h
  · rename_i m1 h1
    cases h
    split at h1
    · cases h1
    · cases h1
      exact Nat.le_trans (put_cost _ k a b (n, 1)) (by have := endRun_cost m; simp only [] at this ⊢; omega)
theorem textM_cost (n : Nat) : ∀ (l : List UInt8) (col k : Nat) (m m' : Mk), textM n l col k m = .ok m' → m'.out.length + m'.run.length ≤ m.out.length + m.run.length + 2 * l.length
  | [], _, _, m, m', h => by rw [textM] at h; cases h; omega
  | b :: r, col, k + 1, m, m', h => by
    rw [textM_skip] at h
    have := textM_cost n r _ _ _ _ h
    simp only [List.length_cons]; omega
  | b :: r, col, 0, m, m', h => by
    simp only [List.length_cons]
    by_cases h1 : isB b = true
    · rw [textM_blank n b r col m h1] at h
      have := textM_cost n r _ _ _ _ h
      rw [blank_cost] at this; omega
    · have h1' : isB b = false := by simpa using h1
      by_cases h2 : b = 92
      · subst h2
        cases he : escL r with
        | error x => rw [textM_esc_err n r col m he] at h; cases h
        | ok s =>
          obtain ⟨d, q1, q2, rfl⟩ := escL_ok he
          rw [textM_esc_ok n d r col m q1 q2] at h
          have := textM_cost n r _ _ _ _ h
          have c := char_cost m [d] (n, col)
          simp only [List.length_cons, List.length_nil] at c; omega
      · by_cases h3 : b = 123
        · subst h3
          cases he : openR m r n col with
          | error x => rw [textM_open_err n r col m he] at h; cases h
          | ok x =>
            obtain ⟨q1, q2, q3⟩ := textM_open_ok n r col m he
            rw [q3] at h
            have := textM_cost n r _ _ _ _ h
            rw [q2] at this
            have c := openB_cost m (letL r) (n, col)
            omega
        · by_cases h4 : b = 125
          · subst h4
            cases he : closeR m n col with
            | error x => rw [textM_close_err n r col m he] at h; cases h
            | ok x =>
              obtain ⟨rfl, q3⟩ := textM_close_ok n r col m he
              rw [q3] at h
              have := textM_cost n r _ _ _ _ h
              have c := closeB_cost m (n, col)
              omega
          · by_cases h5 : b = 124 ∧ m.opn ≠ []
            · obtain ⟨rfl, h6⟩ := h5
              rw [textM_bar n r col m h6] at h
              have := textM_cost n r _ _ _ _ h
              have c := within_cost m 4 [] (n, col)
              omega
            · have h5' : b ≠ 124 ∨ m.opn = [] := by
                by_cases q : b = 124
                · right
                  rcases hm : m.opn with _ | ⟨a, t⟩
                  · rfl
                  · exact absurd ⟨q, by rw [hm]; simp⟩ h5
                · exact .inl q
              rw [textM_char n b r col m h1' h2 h3 h4 h5'] at h
              have := textM_cost n r _ _ _ _ h
              have c := char_cost m [b] (n, col)
              simp only [List.length_cons, List.length_nil] at c; omega
theorem lineM_cost {n : Nat} {l : List UInt8} {m m' : Mk} (h : lineM n l m = .ok m') : m'.out.length + m'.run.length ≤ m.out.length + m.run.length + 2 * l.length + 1 := by
  cases hf : fitL l with
  | some x => rw [lineM_long hf] at h; cases h
  | none =>
    rw [lineM_fit hf] at h
    by_cases q1 : stripL l = []
    · rw [if_pos q1] at h; have := whole_cost h; omega
    · rw [if_neg q1] at h
      by_cases q2 : l.head? = some 35
      · rw [if_pos q2] at h; cases h; omega
      · rw [if_neg q2] at h
        by_cases q3 : l.head? = some 46
        · rw [if_pos q3] at h
          cases hd : dirL l.tail with
          | error x => rw [hd] at h; cases h
          | ok x => rw [hd] at h; have := whole_cost h; omega
        · rw [if_neg q3] at h
          unfold charsR at h
          cases ht : textM n l 1 0 m with
          | error x => rw [ht] at h; cases h
          | ok m1 =>
            rw [ht] at h
            have h' : m1.blank (n, l.length + 1) = m' := by cases h; rfl
            subst h'
            have := textM_cost n l _ _ _ _ ht
            rw [blank_cost]
            omega
end Go.Proofs.YtmceiehnfmgioaaGreatDoor
