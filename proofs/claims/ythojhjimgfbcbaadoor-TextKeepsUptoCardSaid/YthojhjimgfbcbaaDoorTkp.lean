/- Pieces of a text by their places; what a call on a builder keeps. -/
import Derived.Test.YthojhjimgfbcbaaDoorTkf
namespace Go.Proofs.YthojhjimgfbcbaaDoor
open Go.RowKit Go.Maps
set_option linter.unusedVariables false

/-- A character's bytes are its piece's. -/
theorem piece_at (s : ByteArray) : ∀ (L : List Tk) (p k : Nat) (c : Ch), s.data.toList.drop p = joinT L → (chOf p L)[k]? = some c →
    ∃ t, L[k]? = some t ∧ c.2 = (t.rn, t.n) ∧ (s.extract c.1 (c.1 + c.2.2)).data.toList = t.bytes
  | [], _, _, _, _, h => by simp [chOf] at h
  | t :: l, p, 0, c, h, hc => by
    simp only [chOf, List.getElem?_cons_zero, Option.some.injEq] at hc
    subst hc
    refine ⟨t, rfl, rfl, ?_⟩
    rw [Lib.extract_data, h, tk_n, show p + t.bytes.length - p = t.bytes.length by omega]
    show (t.bytes ++ joinT l).take _ = _
    exact List.take_left
  | t :: l, p, k + 1, c, h, hc => by
    simp only [chOf, List.getElem?_cons_succ] at hc
    have hl : s.data.toList.drop (p + t.n) = joinT l := by rw [← List.drop_drop, h, tk_n]; show (t.bytes ++ joinT l).drop _ = _; exact List.drop_left
    obtain ⟨t', h1, h2⟩ := piece_at s l (p + t.n) k c hl hc
    exact ⟨t', by simpa using h1, h2⟩
theorem chOf_len : ∀ (l : List Tk) (p : Nat), (chOf p l).length = l.length
  | [], _ => rfl
  | t :: l, p => by simp only [chOf, List.length_cons]; rw [chOf_len l]
theorem tk_le (t : Tk) : t.bytes.length ≤ 4 := by
  cases t with
  | good r => exact enc_len_le r
  | bad b => show [b].length ≤ 4; simp
theorem own_others {w w' : World} {base b : Nat} {e : TypeId} {size : Nat} {v : Value} {n : Nat} {xs : List Value} (h : w.ownsRow base e size v n xs) (hb : b < base) (he : e ≠ 5) (hk : Lib.OthersKept 5 (some b) w w') : w'.ownsRow base e size v n xs := by
  refine ⟨h.1, ?_⟩
  rcases h.2 with h0 | ⟨g, cap, cur, h1, h2, h3, h4⟩
  · exact .inl h0
  · refine .inr ⟨g, cap, cur, h1, h2, ?_, h4⟩
    refine hk g _ h3 ?_ ?_
    all_goals first | (intro e1; injection e1 with e1; omega) | (intro c fz e1; injection e1 with _ e2; exact he e2) | skip
theorem step_size (s : ByteArray) (st : ByteArray × Bool) (c : Ch) : (foldStep s st c).1.size ≤ st.1.size + 5 := by
  have h1 : (foldCh s c).size ≤ 4 := by
    unfold foldCh
    split
    · have := ext_one s c.1; omega
    · exact encode_size_le _
  unfold foldStep
  split
  · simp
  · simp only [ByteArray.size_append]
    split
    · rw [ByteArray.size_append, one32]; omega
    · omega
theorem steps_size (s : ByteArray) : ∀ (l : List Ch) (st : ByteArray × Bool), (l.foldl (foldStep s) st).1.size ≤ st.1.size + 5 * l.length
  | [], st => by simp
  | c :: l, st => by
    have h1 := step_size s st c
    have h2 := steps_size s l (foldStep s st c)
    simp only [List.foldl_cons, List.length_cons]
    omega
theorem fold_size (s : ByteArray) : (fold s).size ≤ 5 * s.size := by
  have h1 : ((chars s).foldl (foldStep s) (ByteArray.empty, false)).1.size ≤ 0 + 5 * (chars s).length := steps_size s (chars s) (ByteArray.empty, false)
  have h2 := chars_len s
  have h3 : ByteArray.empty.size = 0 := rfl
  unfold fold foldOf
  omega
end Go.Proofs.YthojhjimgfbcbaaDoor
