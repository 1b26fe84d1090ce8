/- Plain mathematics: a line with its tabs let out; what may stand behind a backslash. -/
import Derived.Test.YtmceiehnfmgioaaGreatDoorLx6
import Derived.Lib.ReplaceLaws
import Derived.Lib.MapLaws
namespace Go.Proofs.YtmceiehnfmgioaaGreatDoor
open Go
set_option linter.unusedVariables false

def untab (l : List UInt8) : List UInt8 := l.map fun b => if b = 9 then 32 else b
theorem index_cons (b c : UInt8) (l : List UInt8) : Lib.index (b :: l) [c] = if b = c then 0 else if Lib.index l [c] = -1 then -1 else Lib.index l [c] + 1 := by
  rw [show Lib.index (b :: l) [c] = if [c].isPrefixOf (b :: l) then 0 else if Lib.index l [c] == -1 then -1 else Lib.index l [c] + 1 from rfl]
  have e : [c].isPrefixOf (b :: l) = (c == b) := by simp [List.isPrefixOf]
  rw [e]
  by_cases h : b = c
  · subst h; simp
  · have h' : (c == b) = false := by rw [Bool.eq_false_iff]; intro h2; exact h (beq_iff_eq.1 h2).symm
    rw [h', if_neg h]
    simp
theorem untab_none : ∀ l : List UInt8, l.count 9 = 0 → untab l = l
  | [], _ => rfl
  | b :: l, h => by
    rw [List.count_cons] at h
    have hb : b ≠ 9 := by intro e; subst e; simp at h
    have ih := untab_none l (by omega)
    show (if b = 9 then 32 else b) :: untab l = _
    rw [if_neg hb, ih]
theorem replaceK_tab : ∀ (l : List UInt8) (k : Nat), l.count 9 ≤ k → Lib.replaceK [9] [32] k l = untab l
  | l, 0, h => by rw [untab_none l (by omega)]; rfl
  | [], k + 1, _ => rfl
  | b :: l, k + 1, h => by
    rw [List.count_cons] at h
    by_cases hb : b = 9
    · subst hb
      have e : Lib.index (9 :: l) [9] = (0 : Nat) := by rw [index_cons]; rfl
      rw [Lib.replaceK_hit _ _ _ _ 0 e]
      show [] ++ [32] ++ Lib.replaceK [9] [32] k l = (if (9 : UInt8) = 9 then 32 else 9) :: untab l
      rw [replaceK_tab l k (by simp at h; omega)]
      rfl
    · have hc : l.count 9 ≤ k + 1 := by omega
      have ih := replaceK_tab l (k + 1) hc
      have e := index_cons b 9 l
      rw [if_neg hb] at e
      show _ = (if b = 9 then 32 else b) :: untab l
      rw [if_neg hb]
      by_cases hm : Lib.index l [9] = -1
      · rw [if_pos hm] at e
        have x1 : Lib.replaceK [9] [32] (k + 1) (b :: l) = b :: l := by rw [Lib.replaceK, if_pos (by rw [e]; rfl)]
        have x2 : Lib.replaceK [9] [32] (k + 1) l = l := by rw [Lib.replaceK, if_pos (by rw [hm]; rfl)]
        rw [x1, ← ih, x2]
      · rw [if_neg hm] at e
        have hge := Lib.index_ge l [9]
        obtain ⟨i, hi⟩ : ∃ i : Nat, Lib.index l [9] = i := ⟨(Lib.index l [9]).toNat, by omega⟩
        rw [hi] at e
        rw [Lib.replaceK_hit _ _ _ _ (i + 1) (by rw [e]; rfl)]
        rw [Lib.replaceK_hit _ _ _ _ i hi] at ih
        rw [← ih]
        rfl
theorem replace_tab (l : List UInt8) : Lib.replaceAll l [9] [32] = untab l := by
  unfold Lib.replaceAll Lib.replace
  rw [if_neg (by decide)]
  refine replaceK_tab l _ ?_
  unfold Lib.replaceNum
  rw [if_pos (.inl (by decide)), Lib.count_one]
  exact Nat.le_refl _

theorem get_bs (l : List UInt8) (i : Nat) : (bs l).get! i = l.getD i 0 := by
  show (l.toArray)[i]! = _
  simp [List.getD_eq_getElem?_getD, Array.getElem!_eq_getD, Array.getD_eq_getD_getElem?]
  rfl
theorem get_untab (l : List UInt8) (i : Nat) : (bs (untab l)).get! i = if (bs l).get! i = 9 then 32 else (bs l).get! i := by
  rw [get_bs, get_bs]
  unfold untab
  simp only [List.getD_eq_getElem?_getD, List.getElem?_map]
  cases l[i]? with
  | none => simp
  | some b => simp
theorem size_untab (l : List UInt8) : (bs (untab l)).size = (bs l).size := by simp [bs_size, untab]
theorem tab_num (b : UInt8) : (if b = 9 then (32 : UInt8) else b).toNat = if b.toNat = 9 then 32 else b.toNat := by
  by_cases h : b = 9
  · subst h; rfl
  · have h2 : ¬ b.toNat = 9 := fun e => h (UInt8.toNat_inj.1 e)
    rw [if_neg h, if_neg h2]
theorem decodeN_congr (n n' b0 b1 b2 b3 c1 c2 c3 : Nat) (h1 : (1 < n ∧ b1 / 64 = 2) ↔ (1 < n' ∧ c1 / 64 = 2))
    (h2 : 1 < n ∧ b1 / 64 = 2 → ((2 < n ∧ b2 / 64 = 2) ↔ (2 < n' ∧ c2 / 64 = 2)) ∧ b1 = c1)
    (h3 : 1 < n ∧ b1 / 64 = 2 → 2 < n ∧ b2 / 64 = 2 → ((3 < n ∧ b3 / 64 = 2) ↔ (3 < n' ∧ c3 / 64 = 2)) ∧ b2 = c2)
    (h4 : 1 < n ∧ b1 / 64 = 2 → 2 < n ∧ b2 / 64 = 2 → 3 < n ∧ b3 / 64 = 2 → b3 = c3) : Lib.decodeN n b0 b1 b2 b3 = Lib.decodeN n' b0 c1 c2 c3 := by
  by_cases p1 : 1 < n ∧ b1 / 64 = 2
  · obtain ⟨a2, rfl⟩ := h2 p1
    have q1 := h1.1 p1
    by_cases p2 : 2 < n ∧ b2 / 64 = 2
    · obtain ⟨a3, rfl⟩ := h3 p1 p2
      have q2 := a2.1 p2
      by_cases p3 : 3 < n ∧ b3 / 64 = 2
      · obtain rfl := h4 p1 p2 p3
        have q3 := a3.1 p3
        simp only [Lib.decodeN, p1, p2, p3, q1, q2, q3]
      · have q3 : ¬ (3 < n' ∧ c3 / 64 = 2) := fun h => p3 (a3.2 h)
        simp only [Lib.decodeN, p1, p2, p3, q1, q2, q3, and_false, if_false]
    · have q2 : ¬ (2 < n' ∧ c2 / 64 = 2) := fun h => p2 (a2.2 h)
      simp only [Lib.decodeN, p1, p2, q1, q2, and_false, false_and, if_false]
  · have q1 : ¬ (1 < n' ∧ c1 / 64 = 2) := fun h => p1 (h1.2 h)
    simp only [Lib.decodeN, p1, q1, and_false, false_and, if_false]
def tb (n : Nat) : Nat := if n = 9 then 32 else n
theorem tb_cont (n : Nat) : (tb n / 64 = 2 ↔ n / 64 = 2) ∧ (n / 64 = 2 → tb n = n) := by
  unfold tb
  split <;> omega
theorem decodeN_tab (n b0 b1 b2 b3 : Nat) (h : b0 ≠ 9) : Lib.decodeN n b0 (tb b1) (tb b2) (tb b3) = Lib.decodeN n b0 b1 b2 b3 := by
  have h1 := tb_cont b1
  have h2 := tb_cont b2
  have h3 := tb_cont b3
  refine decodeN_congr n n b0 _ _ _ _ _ _ ?_ ?_ ?_ ?_
  · rw [h1.1]
  · rintro ⟨_, q⟩; exact ⟨by rw [h2.1], h1.2 (h1.1.1 q)⟩
  · rintro _ ⟨_, q⟩; exact ⟨by rw [h3.1], h2.2 (h2.1.1 q)⟩
  · rintro _ _ ⟨_, q⟩; exact h3.2 (h3.1.1 q)
theorem decodeN_nine (n b0 b1 b2 b3 : Nat) (h : b0 ≠ 9) : (Lib.decodeN n b0 b1 b2 b3).1 ≠ 9 := by
  unfold Lib.decodeN
  repeat' split
  all_goals simp only []
  all_goals omega
theorem decode_untab (l : List UInt8) (i : Nat) : Utf8.decode (bs (untab l)) i = (if (Utf8.decode (bs l) i).1 = 9 then 32 else (Utf8.decode (bs l) i).1, (Utf8.decode (bs l) i).2) := by
  rw [Lib.decode_at, Lib.decode_at, size_untab, get_untab, get_untab, get_untab, get_untab, tab_num, tab_num, tab_num, tab_num]
  by_cases h : ((bs l).get! i).toNat = 9
  · rw [h]; simp [Lib.decodeN]
  · rw [if_neg h, if_neg (decodeN_nine _ _ _ _ _ h)]
    exact decodeN_tab _ _ _ _ _ h
theorem chs_untab (l : List UInt8) : ∀ (fuel pos : Nat), chs (bs (untab l)) fuel pos = (chs (bs l) fuel pos).map fun c => (c.1, if c.2.1 = 9 then 32 else c.2.1, c.2.2)
  | 0, _ => rfl
  | fuel + 1, pos => by
    simp only [chs, size_untab, decode_untab]
    split
    · rw [List.map_cons, chs_untab l fuel]
    · rfl
theorem ub_untab (c : Ch) : unplain (c.1, if c.2.1 = 9 then 32 else c.2.1, c.2.2) = ubad c := by
  unfold unplain ubad badB ctl inB ctlB
  by_cases h : c.2.1 = 9
  · simp [h]
  · have e : (c.2.1 != 9) = true := by simpa using h
    simp only [if_neg h, e, Bool.true_and]
    congr 1
    rw [Bool.eq_iff_iff]
    simp
    omega
theorem bad_untab (l : List UInt8) : ((chars (bs (untab l))).find? unplain).map (·.1) = badAt l := by
  unfold badAt chars
  rw [size_untab, chs_untab, List.find?_map]
  have e : (unplain ∘ fun c : Ch => (c.1, if c.2.1 = 9 then 32 else c.2.1, c.2.2)) = ubad := by funext c; exact ub_untab c
  rw [e, Option.map_map]
  rfl

theorem contains_head {s : List UInt8} {d : UInt8} {x : List UInt8} (h : Lib.contains s (d :: x) = true) : d ∈ s := by
  have h0 : 0 ≤ Lib.index s (d :: x) := of_decide_eq_true h
  rcases Lib.index_spec s (d :: x) with ⟨h1, _⟩ | ⟨i, h1, h2, h3, _⟩
  · omega
  · have hp := List.isPrefixOf_iff_prefix.1 (show (d :: x).isPrefixOf (s.drop i) = true from h3)
    have : d ∈ s.drop i := hp.subset (List.mem_cons_self)
    exact List.mem_of_mem_drop this
def meantL : List UInt8 := [92, 123, 125, 124, 46, 35]
theorem special_mem (d : UInt8) : special d = meantL.contains d := by
  have := all_bytes (p := fun c => special c == meantL.contains c) (by decide +kernel) d
  simpa using this
theorem special_ascii {d : UInt8} (h : special d = true) : d.toNat < 128 := by
  have := all_bytes (p := fun c => !special c || decide (c.toNat < 128)) (by decide +kernel) d
  rw [h] at this
  simpa using this
theorem special_one {d : UInt8} (h : special d = true) : Lib.contains meantL [d] = true := by
  have := all_bytes (p := fun c => !special c || Lib.contains meantL [c]) (by decide +kernel) d
  rw [h] at this
  simpa using this
theorem special_not {d : UInt8} {x : List UInt8} (h : special d = false) : Lib.contains meantL (d :: x) = false := by
  rw [Bool.eq_false_iff]
  intro hc
  have := contains_head hc
  rw [special_mem] at h
  have h2 : meantL.contains d = true := List.contains_iff_mem.2 this
  rw [h2] at h
  cases h
end Go.Proofs.YtmceiehnfmgioaaGreatDoor
