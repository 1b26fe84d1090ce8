/- The words of a text, in memory and as lists. -/
import Derived.Test.YtceanagnkcejgaaGreatDoorWd
namespace Go.Proofs.YtceanagnkcejgaaGreatDoor
open Go.RowKit
set_option linter.unusedVariables false

theorem ext_list (t : List UInt8) (b i : Nat) (h : i ≤ t.length) : (bs t).extract b i = bs ((t.drop b).take (i - b)) := by
  apply ByteArray.ext
  apply Array.ext'
  rw [Lib.extract_data]
  show ((t.toArray.toList).drop b).take (i - b) = _
  simp [bs]
theorem wsp_blank (a r : List UInt8) : wsp a (32 :: r) = if a = [] then wsp [] r else a :: wsp [] r := by
  conv => lhs; unfold wsp
  simp
theorem wsp_char (a r : List UInt8) (c : UInt8) (h : c ≠ 32) : wsp a (c :: r) = wsp (a ++ [c]) r := by
  conv => lhs; unfold wsp
  simp [h]
theorem wrds_wsp (t : List UInt8) : ∀ (fuel i b : Nat), i + fuel = t.length + 1 → b ≤ i → i ≤ t.length →
    (wrds (bs t) fuel i b).map (fun y => (t.drop y.1).take (y.2 - y.1)) = wsp ((t.drop b).take (i - b)) (t.drop i)
  | 0, i, b, h, hb, hi => by omega
  | fuel + 1, i, b, h, hb, hi => by
    have hz := bs_len t
    have hne : (t.drop b).take (i - b) = [] ↔ ¬ b < i := by
      constructor
      · intro e hlt
        have := congrArg List.length e
        simp at this
        omega
      · intro e; rw [show i - b = 0 by omega]; simp
    by_cases hi2 : i < t.length
    · have hib : i < (bs t).size := by omega
      obtain ⟨c, hc⟩ : ∃ c, t[i]'hi2 = c := ⟨_, rfl⟩
      have hd : t.drop i = c :: t.drop (i + 1) := by rw [← hc]; exact List.drop_eq_getElem_cons hi2
      have hq : t[i]? = some c := by rw [List.getElem?_eq_getElem hi2, hc]
      have hg : (bs t)[i]'hib = c := by
        have h1 := list_get (bs t) i hib
        have h2 : (bs t).data.toList = t := by simp [bs]
        rw [h2, hq] at h1
        exact (Option.some.inj h1).symm
      rw [hd]
      by_cases h32 : c = 32
      · have e1 : wrds (bs t) (fuel + 1) i b = (if b < i then [(b, i)] else []) ++ wrds (bs t) fuel (i + 1) (i + 1) := by
          simp only [wrds, hib, hg, h32, dif_pos, if_true]
        have ih := wrds_wsp t fuel (i + 1) (i + 1) (by omega) (Nat.le_refl _) (by omega)
        simp only [Nat.sub_self, List.take_zero] at ih
        rw [e1, List.map_append, ih]
        subst h32
        rw [wsp_blank]
        by_cases hlt : b < i
        · rw [if_pos hlt, if_neg (fun e => hne.1 e hlt)]; rfl
        · rw [if_neg hlt, if_pos (hne.2 hlt)]; rfl
      · have e1 : wrds (bs t) (fuel + 1) i b = wrds (bs t) fuel (i + 1) b := by
          simp only [wrds, hib, hg, h32, dif_pos, if_false]
        have ih := wrds_wsp t fuel (i + 1) b (by omega) (by omega) (by omega)
        rw [e1, ih]
        rw [wsp_char _ _ _ h32]
        congr 1
        rw [show i + 1 - b = (i - b) + 1 by omega, List.take_add_one, List.getElem?_drop, show b + (i - b) = i by omega, hq]
        rfl
    · obtain rfl : i = t.length := by omega
      have hib : ¬ t.length < (bs t).size := by omega
      have e1 : wrds (bs t) (fuel + 1) t.length b = (if b < t.length then [(b, t.length)] else []) := by
        simp only [wrds, hib, dif_neg, not_false_eq_true]
      rw [e1, List.drop_eq_nil_of_le (Nat.le_refl _)]
      simp only [wsp]
      by_cases hlt : b < t.length
      · rw [if_pos hlt, if_neg (fun e => hne.1 e hlt)]; rfl
      · rw [if_neg hlt, if_pos (hne.2 hlt)]; rfl
theorem words_list (t : List UInt8) : (words (bs t)).map (fun y => (t.drop y.1).take (y.2 - y.1)) = wordsL t := by
  unfold words wordsL
  rw [bs_len]
  have := wrds_wsp t (t.length + 1) 0 0 (by omega) (Nat.le_refl _) (Nat.zero_le _)
  simpa using this
theorem wsp_wd : ∀ (r a : List UInt8), (∀ c ∈ a, c ≠ 32) → ∀ w ∈ wsp a r, w ≠ [] ∧ ∀ c ∈ w, c ≠ 32
  | [], a, ha, w, h => by
    unfold wsp at h
    split at h
    · cases h
    · rename_i h1
      simp only [List.mem_singleton] at h
      subst h; exact ⟨h1, ha⟩
  | c :: r, a, ha, w, h => by
    unfold wsp at h
    split at h
    · split at h
      · exact wsp_wd r [] (by simp) w h
      · rename_i h1
        rcases List.mem_cons.1 h with rfl | h
        · exact ⟨h1, ha⟩
        · exact wsp_wd r [] (by simp) w h
    · rename_i h1
      refine wsp_wd r (a ++ [c]) ?_ w h
      intro d hd
      rcases List.mem_append.1 hd with hd | hd
      · exact ha d hd
      · simp only [List.mem_singleton] at hd; subst hd; exact h1
theorem wsp_len : ∀ (r a : List UInt8), (∀ w ∈ wsp a r, w.length ≤ a.length + r.length) ∧ (wsp a r).length ≤ a.length + r.length
  | [], a => by
    unfold wsp
    by_cases h : a = []
    · simp [h]
    · have : 0 < a.length := List.length_pos_iff.2 h
      simp [h]; omega
  | c :: r, a => by
    unfold wsp
    by_cases hc : c = 32
    · obtain ⟨h1, h2⟩ := wsp_len r []
      by_cases h : a = []
      · simp only [hc, h, if_true]
        exact ⟨fun w hw => by have := h1 w hw; simp at this ⊢; omega, by simp at h2 ⊢; omega⟩
      · have h3 : 0 < a.length := List.length_pos_iff.2 h
        simp only [hc, h, if_true, if_false]
        refine ⟨fun w hw => ?_, by simp at h2 ⊢; omega⟩
        rcases List.mem_cons.1 hw with rfl | hw
        · omega
        · have := h1 w hw; simp at this ⊢; omega
    · obtain ⟨h1, h2⟩ := wsp_len r (a ++ [c])
      simp only [hc, if_false]
      exact ⟨fun w hw => by have := h1 w hw; simp at this ⊢; omega, by simp at h2 ⊢; omega⟩
theorem wordsL_ok {t : List UInt8} : ∀ w ∈ wordsL t, w ≠ [] ∧ w.length ≤ t.length := fun w h => ⟨(wsp_wd t [] (by simp) w h).1, by have := (wsp_len t []).1 w h; simpa using this⟩
theorem wordsL_len (t : List UInt8) : (wordsL t).length ≤ t.length := by have := (wsp_len t []).2; simpa [wordsL] using this

/-- A list of words in memory, by their texts. -/
def RdW (w : World) (v : Value) (ws : List (List UInt8)) : Prop :=
  ∃ (pa : Option Addr) (cap : Nat), v = .slice pa ws.length cap ∧ ws.length ≤ cap ∧ cap ≤ maxLen ∧ ∀ j (hj : j < ws.length), ∃ b off, pa = some ⟨b, off, none⟩ ∧ w.cell? ⟨b, off + j * 3, none⟩ = some (.string (bs ws[j]))
theorem RdW.below {w w' : World} {v : Value} {ws : List (List UInt8)} (h : RdW w v ws) (hb : Below w.heap.size w w') : RdW w' v ws := by
  obtain ⟨pa, cap, e, h1, h2, h4⟩ := h
  refine ⟨pa, cap, e, h1, h2, fun j hj => ?_⟩
  obtain ⟨b, off, e, hc⟩ := h4 j hj
  exact ⟨b, off, e, (hb.cell (p := ⟨b, off + j * 3, none⟩) (cell_in hc)).trans hc⟩
theorem RdW.keep {w w' : World} {v : Value} {ws : List (List UInt8)} (h : RdW w v ws) (hk : ∀ b o u, w.cell? ⟨b, o, none⟩ = some (.string u) → w'.cell? ⟨b, o, none⟩ = some (.string u)) : RdW w' v ws := by
  obtain ⟨pa, cap, e, h1, h2, h4⟩ := h
  refine ⟨pa, cap, e, h1, h2, fun j hj => ?_⟩
  obtain ⟨b, off, e, hc⟩ := h4 j hj
  exact ⟨b, off, e, hk _ _ _ hc⟩
theorem RdW.form {w : World} {v : Value} {ws : List (List UInt8)} (h : RdW w v ws) : ∃ (pa : Option Addr) (cap : Nat), v = .slice pa ws.length cap ∧ ws.length ≤ cap ∧ cap ≤ maxLen := by
  obtain ⟨pa, cap, e, h1, h2, _⟩ := h
  exact ⟨pa, cap, e, h1, h2⟩
theorem RdW.first {w : World} {pa : Option Addr} {n cap : Nat} {x : List UInt8} {ws : List (List UInt8)} (h : RdW w (.slice pa n cap) (x :: ws)) : ∃ b off, pa = some ⟨b, off, none⟩ ∧ w.cell? ⟨b, off, none⟩ = some (.string (bs x)) := by
  obtain ⟨pa', cap', e, _, _, h4⟩ := h
  cases e
  obtain ⟨b, off, e, hc⟩ := h4 0 (by simp)
  exact ⟨b, off, e, by simpa using hc⟩
/-- What s[1:] reads as. -/
theorem RdW.tail {w : World} {b off n cap : Nat} {x : List UInt8} {ws : List (List UInt8)} (h : RdW w (.slice (some ⟨b, off, none⟩) (n + 1) cap) (x :: ws)) (q : Option Addr) (hq : cap ≠ 1 → q = some ⟨b, off + 3, none⟩) : RdW w (.slice q n (cap - 1)) ws := by
  obtain ⟨pa', cap', e, h1, h2, h4⟩ := h
  simp only [List.length_cons] at e h1
  cases e
  refine ⟨q, cap - 1, rfl, by omega, by omega, fun j hj => ?_⟩
  obtain ⟨b', off', e, hc⟩ := h4 (j + 1) (by simp; omega)
  cases e
  refine ⟨b, off + 3, hq (by omega), ?_⟩
  rw [show off + 3 + j * 3 = off + (j + 1) * 3 by omega]
  simpa using hc
theorem RdW.of_row {t : List UInt8} {w : World} {base : Nat} {v : Value} (h : w.ownsRow base 78 3 v (words (bs t)).length (wrdsV (bs t) (words (bs t)))) (hle : ∀ y ∈ words (bs t), y.2 ≤ t.length) : RdW w v (wordsL t) := by
  have hl : (wordsL t).length = (words (bs t)).length := by rw [← words_list]; simp
  rcases h.2 with ⟨rfl, h0⟩ | ⟨g, cap, cur, rfl, hb, hg, h1, h2, h3, h4⟩
  · refine ⟨none, 0, by rw [hl, h0], by rw [hl, h0]; exact Nat.le_refl _, Nat.zero_le _, fun j hj => by omega⟩
  · refine ⟨_, cap, by rw [hl], by rw [hl]; exact h1, h2, fun j hj => ⟨g, 0, rfl, ?_⟩⟩
    have hj' : j < (words (bs t)).length := by omega
    have hc := World.ownsRow.cellAt h (j * 3) (by omega)
    rw [Nat.zero_add, hc, (wrdsV_get (bs t) _ j _ (List.getElem?_eq_getElem hj')).1]
    have e : (wordsL t)[j] = (t.drop ((words (bs t))[j]).1).take (((words (bs t))[j]).2 - ((words (bs t))[j]).1) := by
      have e2 := words_list t
      have e3 : (wordsL t)[j]? = some ((t.drop ((words (bs t))[j]).1).take (((words (bs t))[j]).2 - ((words (bs t))[j]).1)) := by
        rw [← e2]; simp [hj']
      exact (List.getElem?_eq_some_iff.1 e3).2
    rw [e, ext_list t _ _ (hle _ (List.getElem_mem hj'))]
theorem wrds_le (s : ByteArray) : ∀ (fuel i b : Nat), i ≤ s.size → ∀ y ∈ wrds s fuel i b, y.2 ≤ s.size
  | 0, i, b, hi, y, h => by simp [wrds] at h
  | fuel + 1, i, b, hi, y, h => by
    unfold wrds at h
    split at h
    · split at h
      · rcases List.mem_append.1 h with h | h
        · split at h
          · simp at h; subst h; exact hi
          · cases h
        · exact wrds_le s fuel (i + 1) (i + 1) (by omega) y h
      · exact wrds_le s fuel (i + 1) b (by omega) y h
    · split at h
      · simp at h; subst h; exact hi
      · cases h
theorem words_prs (t : List UInt8) (w : World) (ht : t.length ≤ 16777216) (hT : Tabs w) :
    Calls Tryz.prog 39 #[.string (bs t)] w fun e w' => ∃ v, e = .returned v ∧ RdW w' v (wordsL t) ∧ Below w.heap.size w w' := by
  refine (words_pro (bs t) w (by rw [bs_len]; exact ht) hT).mono ?_
  rintro e w' ⟨v, rfl, h1, h2⟩
  exact ⟨v, rfl, RdW.of_row h1 (fun y hy => by have := wrds_le (bs t) _ 0 0 (Nat.zero_le _) y hy; rw [bs_len] at this; exact this), h2⟩
end Go.Proofs.YtceanagnkcejgaaGreatDoor
