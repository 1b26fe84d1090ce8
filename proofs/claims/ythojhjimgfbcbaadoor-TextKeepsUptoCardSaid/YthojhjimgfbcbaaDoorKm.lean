/- Nothing is lost in cells, in cutting, among words. Plain mathematics. -/
import Derived.Test.YthojhjimgfbcbaaDoorTkp
import Derived.Test.YthojhjimgfbcbaaDoorWords
import Derived.Test.YthojhjimgfbcbaaDoorPcut
namespace Go.Proofs.YthojhjimgfbcbaaDoor
open Go.RowKit Go.Maps
set_option linter.unusedVariables false

/-- Cells one behind the other, from a place to a place. -/
def Tiles : Nat → List Cel → Nat → Prop
  | p, [], e => p = e
  | p, y :: l, e => y.1 = p ∧ p < y.2.1 ∧ Tiles y.2.1 l e
theorem tiles_snoc : ∀ (l : List Cel) (p : Nat) (y : Cel), Tiles p l y.1 → y.1 < y.2.1 → Tiles p (l ++ [y]) y.2.1
  | [], p, y, h, hy => ⟨h.symm, by have : p = y.1 := h; omega, rfl⟩
  | x :: l, p, y, h, hy => ⟨h.1, h.2.1, tiles_snoc l _ y h.2.2 hy⟩
theorem tiles_unsnoc : ∀ (l : List Cel) (p e : Nat) (y : Cel), Tiles p (l ++ [y]) e → Tiles p l y.1 ∧ y.1 < y.2.1 ∧ y.2.1 = e
  | [], p, e, y, h => ⟨h.1.symm, by have := h.2.1; have := h.1; omega, h.2.2⟩
  | x :: l, p, e, y, h => by
    obtain ⟨h1, h2, h3⟩ := tiles_unsnoc l _ e y h.2.2
    exact ⟨⟨h.1, h.2.1, h1⟩, h2, h3⟩
theorem tiles_app : ∀ (a b : List Cel) (p e : Nat), Tiles p (a ++ b) e → ∃ q, Tiles p a q ∧ Tiles q b e
  | [], b, p, e, h => ⟨p, rfl, h⟩
  | x :: a, b, p, e, h => by
    obtain ⟨q, h1, h2⟩ := tiles_app a b _ e h.2.2
    exact ⟨q, ⟨h.1, h.2.1, h1⟩, h2⟩
theorem tiles_le : ∀ (l : List Cel) (p e : Nat), Tiles p l e → p ≤ e
  | [], p, e, h => Nat.le_of_eq h
  | x :: l, p, e, h => by have := tiles_le l _ e h.2.2; have := h.2.1; omega
/-- Two beginnings of one list over one stretch are one. -/
theorem tiles_same : ∀ (a b x y : List Cel) (p e : Nat), a ++ x = b ++ y → Tiles p a e → Tiles p b e → a = b
  | [], [], _, _, _, _, _, _, _ => rfl
  | [], c :: b, _, _, p, e, _, h1, h2 => by
    have h3 := tiles_le b _ e h2.2.2
    have h4 := h2.2.1
    have h5 : p = e := h1
    omega
  | c :: a, [], _, _, p, e, _, h1, h2 => by
    have h3 := tiles_le a _ e h1.2.2
    have h4 := h1.2.1
    have h5 : p = e := h2
    omega
  | c :: a, d :: b, x, y, p, e, h, h1, h2 => by
    simp only [List.cons_append, List.cons.injEq] at h
    obtain ⟨rfl, h⟩ := h
    rw [tiles_same a b x y _ e h h1.2.2 h2.2.2]
/-- Where the k-th character begins. -/
def posC (s : ByteArray) (k : Nat) : Nat := if h : k < (chars s).length then ((chars s)[k]).1 else s.size
theorem tiles_upto (s : ByteArray) : ∀ k, k ≤ (chars s).length → Tiles 0 (celsOf ((chars s).take k)) (posC s k)
  | 0, _ => by
    show 0 = posC s 0
    unfold posC
    split
    · rename_i h
      exact (chs_head s s.size 0 h).symm
    · rename_i h
      by_cases hs : 0 < s.size
      · exfalso
        apply h
        unfold chars
        obtain ⟨n, hn⟩ : ∃ n, s.size = n + 1 := ⟨s.size - 1, by omega⟩
        rw [hn]
        simp [chs, hs]
      · omega
  | k + 1, hk => by
    have hlt : k < (chars s).length := by omega
    have ih := tiles_upto s k (by omega)
    have hc : (chars s)[k]? = some ((chars s)[k]) := List.getElem?_eq_getElem hlt
    have hend := chars_ends s k hlt
    have hw := (chars_width s _ (List.mem_of_getElem? hc)).1
    have hp : posC s k = ((chars s)[k]).1 := by unfold posC; rw [dif_pos hlt]
    have hp1 : posC s (k + 1) = ((chars s)[k]).1 + ((chars s)[k]).2.2 := by unfold posC; rw [hend]
    rw [celsOf_take hc, hp1]
    rw [hp] at ih
    have new : Tiles 0 (celsOf ((chars s).take k) ++ [celNew ((chars s)[k])]) (((chars s)[k]).1 + ((chars s)[k]).2.2) :=
      tiles_snoc _ 0 (celNew ((chars s)[k])) ih (by show ((chars s)[k]).1 < ((chars s)[k]).1 + ((chars s)[k]).2.2; omega)
    rcases List.eq_nil_or_concat (celsOf ((chars s).take k)) with h0 | ⟨i0, y0, h0⟩
    · rw [h0] at new ⊢
      exact new
    · rw [List.concat_eq_append] at h0
      by_cases hz : wid ((chars s)[k]).2.1 = 0
      · rw [h0, celStep_more _ _ _ hz]
        rw [h0] at ih
        obtain ⟨h1, h2, h3⟩ := tiles_unsnoc _ _ _ _ ih
        exact tiles_snoc i0 0 (y0.1, ((chars s)[k]).1 + ((chars s)[k]).2.2, y0.2.2) h1 (by show y0.1 < ((chars s)[k]).1 + ((chars s)[k]).2.2; omega)
      · rw [celStep_new _ _ hz]
        exact new
theorem tiles_cells (s : ByteArray) : Tiles 0 (cells s) s.size := by
  have h := tiles_upto s (chars s).length (Nat.le_refl _)
  rw [List.take_length] at h
  have hp : posC s (chars s).length = s.size := by unfold posC; rw [dif_neg (by omega)]
  rw [hp] at h
  exact h
theorem cells_empty : cells ByteArray.empty = [] := rfl
/-- A cell that is not the first begins with a character that has a width. -/
theorem cell_starts : ∀ (l : List Ch) (pre rest : List Cel) (y : Cel), celsOf l = pre ++ y :: rest → pre ≠ [] → ∃ (l1 l2 : List Ch) (c : Ch), l = l1 ++ c :: l2 ∧ c.1 = y.1 ∧ wid c.2.1 ≠ 0 := by
  have key : ∀ (n : Nat) (l : List Ch), l.length = n → ∀ (pre rest : List Cel) (y : Cel), celsOf l = pre ++ y :: rest → pre ≠ [] → ∃ (l1 l2 : List Ch) (c : Ch), l = l1 ++ c :: l2 ∧ c.1 = y.1 ∧ wid c.2.1 ≠ 0 := by
    intro n
    induction n with
    | zero =>
      intro l hl pre rest y h hp
      rw [List.eq_nil_of_length_eq_zero hl] at h
      have := congrArg List.length h
      simp [celsOf] at this
    | succ n ih =>
      intro l hl pre rest y h hp
      rcases List.eq_nil_or_concat l with rfl | ⟨l0, c, rfl⟩
      · simp at hl
      · rw [List.concat_eq_append] at *
        have hl0 : l0.length = n := by simpa using hl
        have e : celsOf (l0 ++ [c]) = celStep (celsOf l0) c := by unfold celsOf; rw [List.foldl_append]; rfl
        rw [e] at h
        rcases List.eq_nil_or_concat (celsOf l0) with h0 | ⟨i0, y0, h0⟩
        · rw [h0, celStep_nil] at h
          exfalso
          cases pre with
          | nil => exact hp rfl
          | cons a p =>
            have := congrArg List.length h
            simp at this
        · rw [List.concat_eq_append] at h0
          by_cases hz : wid c.2.1 = 0
          · rw [h0, celStep_more _ _ _ hz] at h
            rcases List.eq_nil_or_concat rest with rfl | ⟨r0, z, rfl⟩
            · obtain ⟨h1, h2⟩ := List.append_inj' h rfl
              simp at h2
              subst h1
              obtain ⟨l1, l2, c1, e1, e2, e3⟩ := ih l0 hl0 i0 [] y0 h0 hp
              exact ⟨l1, l2 ++ [c], c1, by rw [e1]; simp, by rw [e2, ← h2], e3⟩
            · rw [List.concat_eq_append, ← List.cons_append, ← List.append_assoc] at h
              obtain ⟨h1, h2⟩ := List.append_inj' h rfl
              obtain ⟨l1, l2, c1, e1, e2, e3⟩ := ih l0 hl0 pre (r0 ++ [y0]) y (by rw [h0, h1]; simp) hp
              exact ⟨l1, l2 ++ [c], c1, by rw [e1]; simp, e2, e3⟩
          · rw [celStep_new _ _ hz] at h
            rcases List.eq_nil_or_concat rest with rfl | ⟨r0, z, rfl⟩
            · obtain ⟨h1, h2⟩ := List.append_inj' h rfl
              simp at h2
              exact ⟨l0, [], c, rfl, by rw [← h2]; rfl, hz⟩
            · rw [List.concat_eq_append, ← List.cons_append, ← List.append_assoc] at h
              obtain ⟨h1, h2⟩ := List.append_inj' h rfl
              obtain ⟨l1, l2, c1, e1, e2, e3⟩ := ih l0 hl0 pre r0 y h1 hp
              exact ⟨l1, l2 ++ [c], c1, by rw [e1]; simp, e2, e3⟩
  exact fun l => key l.length l rfl
theorem split_at (s : ByteArray) (q : Nat) (hq : q ≤ s.size) : s.extract 0 q ++ s.extract q s.size = s := by
  apply data_inj
  rw [dataApp, Lib.extract_data, Lib.extract_data]
  simp
  have h1 : s.data.toList.length = s.size := by rw [← Lib.size_eq]
  have h2 : List.take (s.size - q) (List.drop q s.data.toList) = List.drop q s.data.toList := List.take_of_length_le (by rw [List.length_drop]; omega)
  rw [h2]
  exact List.take_append_drop q _
/-- What stands ahead of a cell has the cells ahead of it. -/
theorem cells_prefix (s : ByteArray) (pre rest : List Cel) (y : Cel) (h : cells s = pre ++ y :: rest) : cells (s.extract 0 y.1) = pre := by
  have ht := tiles_cells s
  rw [h] at ht
  obtain ⟨q, t1, t2⟩ := tiles_app pre (y :: rest) 0 _ ht
  have hq : y.1 = q := t2.1
  have hqs : q ≤ s.size := by have := tiles_le _ _ _ t2; exact this
  by_cases hp : pre = []
  · subst hp
    have h0 : 0 = q := t1
    rw [hq, ← h0]
    have : s.extract 0 0 = ByteArray.empty := by apply data_inj; rw [Lib.extract_data]; simp
    rw [this]
    exact cells_empty
  · obtain ⟨l1, l2, c, e1, e2, e3⟩ := cell_starts (chars s) pre rest y h hp
    have hsz : (s.extract 0 y.1).size = y.1 := by rw [ByteArray.size_extract]; omega
    have hj := split_at s y.1 (by omega)
    have hcj := chars_join (s.extract 0 y.1) (s.extract y.1 s.size) (.inr ⟨c, by rw [hj, e1]; simp, by rw [hsz]; exact e2⟩)
    rw [hj] at hcj
    -- the second text's first character is c
    have hb : ∃ d l, chars (s.extract y.1 s.size) = d :: l ∧ wid d.2.1 ≠ 0 := by
      obtain ⟨c1, c2⟩ := chars_at s c (by rw [e1]; simp)
      have hbs : 0 < (s.extract y.1 s.size).size := by rw [ByteArray.size_extract]; omega
      obtain ⟨n, hn⟩ : ∃ n, (s.extract y.1 s.size).size = n + 1 := ⟨(s.extract y.1 s.size).size - 1, by omega⟩
      have hd := decode_right (s.extract 0 y.1) (s.extract y.1 s.size) 0 hbs
      have hc2 : Utf8.decode s y.1 = c.2 := by rw [← e2]; exact c2.symm
      rw [hj, hsz, Nat.add_zero, hc2] at hd
      refine ⟨(0, (Utf8.decode (s.extract y.1 s.size) 0).1, (Utf8.decode (s.extract y.1 s.size) 0).2), chs (s.extract y.1 s.size) n (0 + (Utf8.decode (s.extract y.1 s.size) 0).2), ?_, ?_⟩
      · unfold chars
        rw [hn]
        simp only [chs, hbs, if_true]
      · show wid ((Utf8.decode (s.extract y.1 s.size) 0).1 : Int) ≠ 0
        rw [← hd]
        exact e3
    obtain ⟨d, l, hb1, hb2⟩ := hb
    have e : cells s = cells (s.extract 0 y.1) ++ (cells (s.extract y.1 s.size)).map (shiftC (s.extract 0 y.1).size) := by
      unfold cells celsOf
      rw [hcj, List.foldl_append, hb1]
      simp only [List.map_cons, List.foldl_cons]
      rw [celStep_new _ (shift _ d) hb2, show [celNew (shift (s.extract 0 y.1).size d)] = [celNew d].map (shiftC (s.extract 0 y.1).size) by simp [celNew, shiftC, shift, Nat.add_assoc, hb2], foldl_shift _ _ _ _ (by simp), celStep_nil]
    have t3 := tiles_cells (s.extract 0 y.1)
    rw [hsz] at t3
    rw [h] at e
    rw [← hq] at t1
    exact (tiles_same _ _ _ _ 0 y.1 e t1 t3).symm
/-- What is cut off fits; a cell more does not. -/
theorem cut_some : ∀ (m : Int) (l : List Cel) (n : Int) (y : Cel), cutAt m l n = some y → ∃ pre rest, l = pre ++ y :: rest ∧ (pre = [] ∨ n + sumW pre ≤ m) ∧ m < n + sumW pre + y.2.2
  | m, [], n, y, h => by simp [cutAt] at h
  | m, x :: l, n, y, h => by
    simp only [cutAt] at h
    split at h
    · rename_i hx
      obtain rfl : x = y := by simpa using h
      exact ⟨[], l, rfl, .inl rfl, by show m < n + 0 + x.2.2; omega⟩
    · rename_i hx
      obtain ⟨pre, rest, h1, h2, h3⟩ := cut_some m l _ y h
      have e : sumW (x :: pre) = x.2.2 + sumW pre := by simp [sumW]
      refine ⟨x :: pre, rest, by rw [h1]; rfl, .inr ?_, by omega⟩
      rcases h2 with rfl | h2
      · rw [e]; show n + (x.2.2 + 0) ≤ m; omega
      · omega
theorem cut_none : ∀ (m : Int) (l : List Cel) (n : Int), cutAt m l n = none → l = [] ∨ n + sumW l ≤ m
  | m, [], n, h => .inl rfl
  | m, x :: l, n, h => by
    simp only [cutAt] at h
    split at h
    · simp at h
    · rename_i hx
      have e : sumW (x :: l) = x.2.2 + sumW l := by simp [sumW]
      right
      rcases cut_none m l _ h with rfl | h2
      · rw [e]; show n + (x.2.2 + 0) ≤ m; omega
      · omega
/-- All that is said of Cut. -/
theorem cut_says (s : ByteArray) (m : Int) : (cut s m).1 ++ (cut s m).2 = s ∧ ((cut s m).1.size = 0 ∨ wide (cut s m).1 ≤ m) ∧ (cells (cut s m).1).length ≤ (cells s).length ∧
    ((cut s m).2.size = 0 ∨ ∃ y, (cells s)[(cells (cut s m).1).length]? = some y ∧ m < wide (cut s m).1 + y.2.2) := by
  unfold cut
  cases h : cutAt m (cells s) 0 with
  | none =>
    have hs0 : cells s = [] → s.size = 0 := fun h0 => by have := tiles_cells s; rw [h0] at this; exact Eq.symm this
    refine ⟨ByteArray.append_empty, ?_, Nat.le_refl _, .inl rfl⟩
    rcases cut_none m _ 0 h with h1 | h1
    · exact .inl (hs0 h1)
    · right; unfold wide; simp only; omega
  | some y =>
    obtain ⟨pre, rest, h1, h2, h3⟩ := cut_some m _ 0 y h
    have hp := cells_prefix s pre rest y h1
    have hy := cel_place s y (by rw [h1]; simp)
    have ht := tiles_cells s
    rw [h1] at ht
    obtain ⟨q, t1, t2⟩ := tiles_app pre _ 0 _ ht
    refine ⟨split_at s y.1 hy, ?_, ?_, .inr ⟨y, ?_, ?_⟩⟩
    · rcases h2 with h2 | h2
      · left
        rw [h2] at t1
        have h5 : 0 = q := t1
        have h6 : y.1 = q := t2.1
        show (s.extract 0 y.1).size = 0
        rw [ByteArray.size_extract]
        omega
      · right
        show wide (s.extract 0 y.1) ≤ m
        unfold wide
        rw [hp]
        omega
    · show (cells (s.extract 0 y.1)).length ≤ _
      rw [hp, h1]
      simp
    · show (cells s)[(cells (s.extract 0 y.1)).length]? = some y
      rw [hp, h1]
      simp
    · show m < wide (s.extract 0 y.1) + y.2.2
      unfold wide
      rw [hp]
      omega

/-! ### words -/
/-- A place in one of the words. -/
def inW (l : List (Nat × Nat)) (i : Nat) : Bool := l.any fun y => decide (y.1 ≤ i ∧ i < y.2)
/-- What stands there when the words are laid on blanks. -/
def laid (s : ByteArray) (l : List (Nat × Nat)) (i : Nat) : UInt8 := if inW l i then s.data.toList.getD i 0 else 32
theorem wrds_fit (s : ByteArray) : ∀ (f i b : Nat), b ≤ i → ∀ y ∈ wrds s f i b, y.1 < y.2 ∧ y.2 ≤ s.size ∨ s.size < i
  | 0, i, b, h, y, hy => by simp [wrds] at hy
  | f + 1, i, b, h, y, hy => by
    by_cases hi : i < s.size
    · simp only [wrds, hi, dif_pos] at hy
      split at hy
      · rw [List.mem_append] at hy
        rcases hy with hy | hy
        · split at hy
          · simp at hy; subst hy; left; exact ⟨by assumption, by show i ≤ s.size; omega⟩
          · simp at hy
        · rcases wrds_fit s f (i + 1) (i + 1) (by omega) y hy with h1 | h1
          · exact .inl h1
          · omega
      · rcases wrds_fit s f (i + 1) b (by omega) y hy with h1 | h1
        · exact .inl h1
        · omega
    · simp only [wrds, hi, dif_neg, not_false_eq_true] at hy
      split at hy
      · simp at hy
        subst hy
        by_cases h2 : i = s.size
        · left; exact ⟨by assumption, by show i ≤ s.size; omega⟩
        · right; omega
      · simp at hy
theorem words_fit (s : ByteArray) : ∀ y ∈ words s, y.1 < y.2 ∧ y.2 ≤ s.size := by
  intro y hy
  rcases wrds_fit s _ 0 0 (Nat.le_refl _) y hy with h | h
  · exact h
  · omega
theorem wrds_cover (s : ByteArray) : ∀ (f i b : Nat), b ≤ i → i ≤ s.size → s.size < i + f → ∀ j, b ≤ j → (h : j < s.size) → inW (wrds s f i b) j = false → s[j] = 32
  | 0, i, b, h, hi, hf, j, hb, hj, hw => by omega
  | f + 1, i, b, h, hi0, hf, j, hb, hj, hw => by
    by_cases hi : i < s.size
    · simp only [wrds, hi, dif_pos] at hw
      split at hw
      · rename_i h32
        simp only [inW, List.any_append, Bool.or_eq_false_iff] at hw
        obtain ⟨w1, w2⟩ := hw
        by_cases hji : j < i
        · exfalso
          rw [if_pos (by omega)] at w1
          simp at w1
          omega
        · by_cases hj2 : j = i
          · subst hj2; exact h32
          · exact wrds_cover s f (i + 1) (i + 1) (Nat.le_refl _) (by omega) (by omega) j (by omega) hj w2
      · exact wrds_cover s f (i + 1) b (by omega) (by omega) (by omega) j hb hj hw
    · simp only [wrds, hi, dif_neg, not_false_eq_true] at hw
      exfalso
      by_cases hbi : b < i
      · rw [if_pos hbi] at hw
        simp [inW] at hw
        omega
      · omega
/-- What is in no word is a blank. -/
theorem words_cover (s : ByteArray) (j : Nat) (h : j < s.size) (hw : inW (words s) j = false) : s[j] = 32 := by
  exact wrds_cover s _ 0 0 (Nat.le_refl _) (Nat.zero_le _) (by omega) j (Nat.zero_le _) h hw
end Go.Proofs.YthojhjimgfbcbaaDoor
