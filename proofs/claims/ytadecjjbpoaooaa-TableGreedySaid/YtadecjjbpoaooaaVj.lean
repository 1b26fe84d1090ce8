/- Layer 12, plain: what holds of columns. -/
import Derived.Test.YtadecjjbpoaooaaUv
namespace Go.Proofs.Ytadecjjbpoaooaa.Tb
set_option linter.unusedVariables false
set_option linter.unusedSimpArgs false
theorem deal_sum {ws : List Int} (c : Nat) : ∀ m : Nat, m ≤ ws.length → sumZ (fnL m (dealG ws (freeN ws) c)) = sumZ (fnL m (baseG ws)) + ((c : Int) - leftN (freeN ws) c (rank ws m)) ∧ leftN (freeN ws) c (rank ws m) ≤ c
  | 0, _ => by
    rw [rank_zero, left_zero]
    simp [fnL, sumZ]
  | m + 1, h => by
    obtain ⟨ih, hle⟩ := deal_sum (ws := ws) c m (by omega)
    rw [sum_snoc, sum_snoc, ih]
    by_cases h0 : wAt ws m = 0
    · have hr := rank_lt (show m < ws.length by omega) h0
      have hn := left_next (c := c) hr
      rw [rank_free (by omega) h0]
      have e1 : dealG ws (freeN ws) c m = 1 + give (freeN ws) c (rank ws m) := by unfold dealG; rw [if_pos h0]
      have e2 : baseG ws m = 1 := by unfold baseG one; rw [if_pos h0]
      rw [e1, e2]
      omega
    · rw [rank_fixed (by omega) h0]
      have e1 : dealG ws (freeN ws) c m = wAt ws m := by unfold dealG; rw [if_neg h0]
      have e2 : baseG ws m = wAt ws m := by unfold baseG one; rw [if_neg h0]
      rw [e1, e2]
      omega
theorem widF_max (l : List Int) : ∀ i j : Nat, j < i → l.getD j 0 ≤ l.getD (widF l i) 0
  | 0, j, h => absurd h (by omega)
  | i + 1, j, h => by
    have ih := fun h => widF_max l i j h
    unfold widF
    split
    · rename_i h2
      rcases Nat.lt_or_ge j i with h3 | h3
      · have := ih h3; omega
      · rw [show j = i by omega]; omega
    · rename_i h2
      rcases Nat.lt_or_ge j i with h3 | h3
      · exact ih h3
      · rw [show j = i by omega]; omega
theorem narrow1_at (l : List Int) (i : Nat) : (narrow1 l).getD i 0 = if i = widF l l.length ∧ i < l.length then l.getD i 0 - 1 else l.getD i 0 := by
  unfold narrow1
  rw [List.getD_eq_getElem?_getD, List.getElem?_set]
  by_cases h : widF l l.length = i
  · rw [if_pos h]
    by_cases h2 : i < l.length
    · rw [if_pos (by omega), if_pos ⟨h.symm, h2⟩, ← h]; rfl
    · rw [if_neg (by omega), if_neg (fun x => h2 x.2), List.getD_eq_getElem?_getD, List.getElem?_eq_none (by omega)]
  · rw [if_neg h, if_neg (fun x => h x.1.symm), ← List.getD_eq_getElem?_getD]
theorem narrow1_le (l : List Int) (i : Nat) : (narrow1 l).getD i 0 ≤ l.getD i 0 := by
  rw [narrow1_at]; split <;> omega
theorem narrowN_le : ∀ (n : Nat) (l : List Int) (i : Nat), (narrowN n l).getD i 0 ≤ l.getD i 0
  | 0, l, i => Int.le_refl _
  | n + 1, l, i => Int.le_trans (narrowN_le n (narrow1 l) i) (narrow1_le l i)
theorem sum_ones : ∀ l : List Int, (∀ i, i < l.length → l.getD i 0 ≤ 1) → sumZ l ≤ l.length
  | [], _ => by simp [sumZ]
  | x :: l, h => by
    have h0 := h 0 (by simp)
    have ih := sum_ones l fun i hi => by
      have := h (i + 1) (by simpa using hi)
      simpa [List.getD_eq_getElem?_getD] using this
    simp at h0
    simp only [sumZ, List.length_cons]
    omega
theorem narrow1_pos (l : List Int) (h : ∀ i, i < l.length → 1 ≤ l.getD i 0) (hs : (l.length : Int) < sumZ l) : ∀ i, i < (narrow1 l).length → 1 ≤ (narrow1 l).getD i 0 := by
  intro i hi
  rw [narrow1_len] at hi
  rw [narrow1_at]
  split
  · rename_i e
    by_cases h2 : 2 ≤ l.getD i 0
    · omega
    · exfalso
      have := sum_ones l fun j hj => by
        have := widF_max l l.length j hj
        rw [← e.1] at this
        omega
      omega
  · exact h i hi
theorem narrowN_pos : ∀ (n : Nat) (l : List Int), (∀ i, i < l.length → 1 ≤ l.getD i 0) → (l.length : Int) ≤ sumZ l - n → 0 < l.length → ∀ i, i < (narrowN n l).length → 1 ≤ (narrowN n l).getD i 0
  | 0, l, h, _, _ => h
  | n + 1, l, h, hs, h0 => by
    have := narrow1_sum l h0
    exact narrowN_pos n (narrow1 l) (narrow1_pos l h (by omega)) (by rw [narrow1_len]; omega) (by rw [narrow1_len]; exact h0)
theorem baseL_at {ws : List Int} {i : Nat} (h : i < ws.length) : (baseL ws).getD i 0 = baseG ws i := by
  unfold baseL
  rw [List.getD_eq_getElem?_getD, fnL_at? h]; rfl
theorem widths_ok {ws : List Int} (hk : OkWs ws) (hn : 0 < ws.length) {room : Int} (h0 : (ws.length : Int) ≤ room) :
    (∀ i, i < ws.length → 1 ≤ (widthsM ws room).getD i 0 ∧ (0 < wAt ws i → (widthsM ws room).getD i 0 ≤ wAt ws i)) ∧ sumZ (widthsM ws room) ≤ room := by
  have hb1 : ∀ i, i < ws.length → baseG ws i = wAt ws i ∨ wAt ws i = 0 := fun i _ => by
    unfold baseG one
    split
    · exact .inr (by assumption)
    · exact .inl rfl
  have hlen : (baseL ws).length = ws.length := fnL_len _ _
  unfold widthsM
  split
  · rename_i hr
    have hp := narrowN_pos (sumZ (baseL ws) - room).toNat (baseL ws) (fun i hi => by rw [baseL_at (by omega)]; exact (base_ok hk i).1) (by omega) (by omega)
    refine ⟨fun i hi => ⟨hp i (by rw [narrowN_len]; omega), fun hw => ?_⟩, ?_⟩
    · have := narrowN_le (sumZ (baseL ws) - room).toNat (baseL ws) i
      rw [baseL_at hi] at this
      rcases hb1 i hi with h | h
      · omega
      · omega
    · rw [narrowN_sum _ _ (by omega)]; omega
  · rename_i hr
    refine ⟨fun i hi => ?_, ?_⟩
    · rw [List.getD_eq_getElem?_getD, fnL_at? hi]
      show 1 ≤ dealG ws _ _ i ∧ (0 < wAt ws i → dealG ws _ _ i ≤ wAt ws i)
      unfold dealG
      have := (wAt_ok hk i).1
      split
      · exact ⟨by omega, fun h => by omega⟩
      · exact ⟨by omega, fun _ => Int.le_refl _⟩
    · obtain ⟨h1, h2⟩ := deal_sum (ws := ws) (room - sumZ (baseL ws)).toNat ws.length (Nat.le_refl _)
      rw [h1]
      show sumZ (baseL ws) + _ ≤ room
      omega
theorem colsE_zero {ws : List Int} {wide : Int} (h : colsE ws wide = 0) : (10 ≤ wide ∧ wide ≤ 200) ∧ (1 ≤ ws.length ∧ ws.length ≤ 8) ∧ OkWs ws := by
  unfold colsE at h
  split at h
  · cases h
  · rename_i h1
    refine ⟨by omega, by omega, okWs_of ?_⟩
    cases e : ws.any (fun w => !okW w)
    · rfl
    · exact absurd (.inr (.inr (.inr (.inr e)))) h1
theorem colsAt_at (gap : Int) : ∀ (l : List Int) (a : Int) (k : Nat) (h : k < (colsAt gap a l).length), (colsAt gap a l)[k] = (a + sumZ (l.take k) + gap * k, l.getD k 0)
  | [], a, k, h => absurd h (by simp [colsAt])
  | w :: l, a, 0, h => by simp [colsAt, sumZ]
  | w :: l, a, k + 1, h => by
    have ih := colsAt_at gap l (a + w + gap) k (by simpa [colsAt] using h)
    have e : (colsAt gap a (w :: l))[k + 1] = (colsAt gap (a + w + gap) l)[k]'(by simpa [colsAt] using h) := rfl
    rw [e, ih]
    simp only [List.take_succ_cons, sumZ, List.getD_cons_succ, Prod.mk.injEq, and_true]
    rw [show ((k + 1 : Nat) : Int) = (k : Int) + 1 by omega, Int.mul_add]
    omega
/-- What TableApart asks of columns. -/
structure Apart (ws : List Int) (wide : Int) (cs : List (Int × Int)) : Prop where
  num : cs.length = ws.length
  le : ws.length ≤ 8
  col : ∀ k (hk : k < cs.length), 1 ≤ cs[k].2 ∧ cs[k].2 ≤ 2000 ∧ -100000 ≤ cs[k].1 ∧ cs[k].1 ≤ 100000 ∧ (0 < wAt ws k → cs[k].2 ≤ wAt ws k)
  nxt : ∀ k (hk : k < cs.length), (if h : k = 0 then 0 else cs[k - 1].1 + cs[k - 1].2) ≤ cs[k].1
  fin : ∀ k (hk : k < cs.length), k + 1 = cs.length → cs[k].1 + cs[k].2 ≤ wide
theorem sum_take_all {l : List Int} {k : Nat} (h : k + 1 = l.length) : sumZ (l.take k) + l.getD k 0 = sumZ l := by
  have e : l.take (k + 1) = l := List.take_of_length_le (by omega)
  have hk : k < l.length := by omega
  rw [List.take_succ_eq_append_getElem hk] at e
  have h2 : sumZ (l.take k ++ [l[k]]) = sumZ l := by rw [e]
  rw [sumZ_app] at h2
  simp only [sumZ] at h2
  rw [List.getD_eq_getElem?_getD, List.getElem?_eq_getElem hk]
  simp only [Option.getD_some]
  omega
theorem apart_of {ws : List Int} {wide : Int} (h : colsE ws wide = 0) : Apart ws wide (colsL ws wide) := by
  obtain ⟨⟨w1, w2⟩, ⟨n1, n2⟩, hk⟩ := colsE_zero h
  have hroom : (ws.length : Int) ≤ roomOf ws.length wide := by unfold roomOf; split <;> omega
  have hr2 : 0 ≤ roomOf ws.length wide ∧ roomOf ws.length wide ≤ 200 := by unfold roomOf; split <;> omega
  obtain ⟨hz, hsum⟩ := widths_ok hk n1 hroom
  have hbd := widths_bd hk n2 hr2.1 hr2.2
  have hg : 0 ≤ gapOf ws.length wide ∧ gapOf ws.length wide ≤ 1 := by unfold gapOf; split <;> omega
  have hfin : roomOf ws.length wide + gapOf ws.length wide * ((ws.length : Int) - 1) ≤ wide := by
    unfold roomOf gapOf
    split
    · omega
    · omega
  obtain ⟨zs, hzs⟩ : ∃ zs, widthsM ws (roomOf ws.length wide) = zs := ⟨_, rfl⟩
  obtain ⟨gap, hgap⟩ : ∃ gap, gapOf ws.length wide = gap := ⟨_, rfl⟩
  have hzl : zs.length = ws.length := by rw [← hzs, widthsM_len]
  rw [hzs] at hz hsum hbd
  rw [hgap] at hg hfin
  have e : colsL ws wide = colsAt gap 0 zs := by unfold colsL colsM; rw [if_pos h, hzs, hgap]
  have hst := sum_take_bd hbd
  rw [e]
  have hlen : (colsAt gap 0 zs).length = ws.length := by rw [colsAt_len, hzl]
  have hgd : ∀ k, k < ws.length → zs.getD k 0 ∈ zs := fun k hk => by
    rw [List.getD_eq_getElem?_getD, List.getElem?_eq_getElem (by omega)]
    exact List.getElem_mem _
  have hgk : ∀ k : Nat, k < ws.length → 0 ≤ gap * k ∧ gap * k ≤ 8 := fun k hk => by
    rcases (show gap = 0 ∨ gap = 1 by omega) with h | h
    · subst h; simp
    · subst h; omega
  refine ⟨hlen, n2, fun k hk => ?_, fun k hk => ?_, fun k hk hl => ?_⟩
  · rw [hlen] at hk
    rw [colsAt_at]
    have h1 := hbd _ (hgd k hk)
    have h2 := hst k (by omega)
    have h3 := hgk k hk
    have h4 := hz k hk
    exact ⟨h4.1, h1.2, by show -100000 ≤ 0 + sumZ (zs.take k) + gap * k; omega, by show 0 + sumZ (zs.take k) + gap * k ≤ 100000; omega, h4.2⟩
  · have hk' := hk
    rw [hlen] at hk'
    split
    · rename_i h0
      subst h0
      rw [colsAt_at]
      simp [sumZ]
    · rename_i h0
      obtain ⟨j, rfl⟩ : ∃ j, k = j + 1 := ⟨k - 1, by omega⟩
      have e1 := colsAt_at gap zs 0 (j + 1) hk
      have e2 := colsAt_at gap zs 0 j (by omega)
      have e3 : (colsAt gap 0 zs)[j + 1 - 1]'(by omega) = (colsAt gap 0 zs)[j]'(by omega) := rfl
      rw [e3, e1, e2]
      show 0 + sumZ (zs.take j) + gap * j + zs.getD j 0 ≤ 0 + sumZ (zs.take (j + 1)) + gap * ((j + 1 : Nat) : Int)
      rw [List.take_succ_eq_append_getElem (show j < zs.length by omega), sumZ_app, List.getD_eq_getElem?_getD, List.getElem?_eq_getElem (show j < zs.length by omega)]
      simp only [sumZ, Option.getD_some]
      rw [show ((j + 1 : Nat) : Int) = (j : Int) + 1 by omega, Int.mul_add]
      omega
  · rw [colsAt_at]
    show 0 + sumZ (zs.take k) + gap * k + zs.getD k 0 ≤ wide
    have := sum_take_all (l := zs) (k := k) (by omega)
    have e3 : (k : Int) = (ws.length : Int) - 1 := by omega
    rw [e3]
    omega
end Go.Proofs.Ytadecjjbpoaooaa.Tb
