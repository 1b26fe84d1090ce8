/- Two texts, one behind the other: their characters and their cells. Plain mathematics. -/
import Derived.Test.YtoeknophfcfahaaGreatDoorWiden
import Derived.Lib.DecodeN
namespace Go.Proofs.YtoeknophfcfahaaGreatDoor
open Go

theorem get_app_l {a b : ByteArray} {i : Nat} (h : i < a.size) : (a ++ b).get! i = a.get! i := by
  have h1 : i < (a ++ b).size := by rw [ByteArray.size_append]; omega
  have e1 : (a ++ b).get! i = (a ++ b)[i] := by simpa using get_at (a ++ b) i h1
  have e2 : a.get! i = a[i] := by simpa using get_at a i h
  rw [e1, e2, ByteArray.getElem_append_left h]
theorem get_app_r {a b : ByteArray} {i : Nat} (h : i < b.size) : (a ++ b).get! (a.size + i) = b.get! i := by
  have h1 : a.size + i < (a ++ b).size := by rw [ByteArray.size_append]; omega
  have e1 : (a ++ b).get! (a.size + i) = (a ++ b)[a.size + i] := by simpa using get_at (a ++ b) (a.size + i) h1
  have e2 : b.get! i = b[i] := by simpa using get_at b i h
  rw [e1, e2, ByteArray.getElem_append_right (by omega)]
  congr 1
  omega
theorem decodeN_far (n b0 b1 b2 b3 c1 c2 c3 : Nat) (h1 : 1 < n → b1 = c1) (h2 : 2 < n → b2 = c2) (h3 : 3 < n → b3 = c3) : Lib.decodeN n b0 b1 b2 b3 = Lib.decodeN n b0 c1 c2 c3 := by
  by_cases k1 : 1 < n
  · obtain rfl := h1 k1
    by_cases k2 : 2 < n
    · obtain rfl := h2 k2
      by_cases k3 : 3 < n
      · obtain rfl := h3 k3; rfl
      · simp [Lib.decodeN, k3]
    · have k3 : ¬ 3 < n := by omega
      simp [Lib.decodeN, k2, k3]
  · have k2 : ¬ 2 < n := by omega
    have k3 : ¬ 3 < n := by omega
    simp [Lib.decodeN, k1, k2, k3]
/-- Behind the joint the second text's characters are read. -/
theorem decode_right (a b : ByteArray) (p : Nat) (hp : p < b.size) : Utf8.decode (a ++ b) (a.size + p) = Utf8.decode b p := by
  rw [Lib.decode_at, Lib.decode_at, get_app_r hp, show (a ++ b).size - (a.size + p) = b.size - p by rw [ByteArray.size_append]; omega]
  apply decodeN_far
  · intro h; rw [show a.size + p + 1 = a.size + (p + 1) by omega, get_app_r (by omega)]
  · intro h; rw [show a.size + p + 2 = a.size + (p + 2) by omega, get_app_r (by omega)]
  · intro h; rw [show a.size + p + 3 = a.size + (p + 3) by omega, get_app_r (by omega)]
theorem decodeN_short (n m b0 b1 b2 b3 : Nat) (hm : 0 < m) (hnm : m ≤ n) (h : (Lib.decodeN n b0 b1 b2 b3).2 ≤ m) : Lib.decodeN m b0 b1 b2 b3 = Lib.decodeN n b0 b1 b2 b3 := by
  by_cases k3 : 3 < m
  · have k1 : 1 < m := by omega
    have k2 : 2 < m := by omega
    have n1 : 1 < n := by omega
    have n2 : 2 < n := by omega
    have n3 : 3 < n := by omega
    simp only [Lib.decodeN, k1, k2, k3, n1, n2, n3]
  · simp only [Lib.decodeN, k3, false_and, and_false, if_false] at h ⊢
    by_cases cA : b0 < 128
    · simp only [cA, if_true]
    · simp only [cA, if_false] at h ⊢
      by_cases cB : b0 / 32 = 6 ∧ (1 < n ∧ b1 / 64 = 2)
      · by_cases k1 : 1 < m
        · have cB' : b0 / 32 = 6 ∧ (1 < m ∧ b1 / 64 = 2) := ⟨cB.1, k1, cB.2.2⟩
          simp only [if_pos cB, if_pos cB']
        · have x1 : ¬ (b0 / 32 = 6 ∧ (1 < m ∧ b1 / 64 = 2)) := fun x => k1 x.2.1
          have x2 : ¬ (b0 / 16 = 14 ∧ (1 < m ∧ b1 / 64 = 2) ∧ (2 < m ∧ b2 / 64 = 2)) := fun x => k1 x.2.1.1
          simp only [if_pos cB, if_neg x1, if_neg x2] at h ⊢
          split at h
          · simp only at h; omega
          · rename_i hv; rw [if_neg hv]
      · have cB' : ¬ (b0 / 32 = 6 ∧ (1 < m ∧ b1 / 64 = 2)) := fun x => cB ⟨x.1, by omega, x.2.2⟩
        simp only [if_neg cB, if_neg cB'] at h ⊢
        by_cases cC : b0 / 16 = 14 ∧ (1 < n ∧ b1 / 64 = 2) ∧ (2 < n ∧ b2 / 64 = 2)
        · by_cases k2 : 2 < m
          · have cC' : b0 / 16 = 14 ∧ (1 < m ∧ b1 / 64 = 2) ∧ (2 < m ∧ b2 / 64 = 2) := ⟨cC.1, ⟨by omega, cC.2.1.2⟩, k2, cC.2.2.2⟩
            simp only [if_pos cC, if_pos cC']
          · have x2 : ¬ (b0 / 16 = 14 ∧ (1 < m ∧ b1 / 64 = 2) ∧ (2 < m ∧ b2 / 64 = 2)) := fun x => k2 x.2.2.1
            simp only [if_pos cC, if_neg x2] at h ⊢
            split at h
            · simp only at h; omega
            · rename_i hv; rw [if_neg hv]
        · have cC' : ¬ (b0 / 16 = 14 ∧ (1 < m ∧ b1 / 64 = 2) ∧ (2 < m ∧ b2 / 64 = 2)) := fun x => cC ⟨x.1, ⟨by omega, x.2.1.2⟩, by omega, x.2.2.2⟩
          simp only [if_neg cC, if_neg cC'] at h ⊢
          split at h
          · rename_i hD
            split at h
            · simp only at h; omega
            · rename_i hv; rw [if_pos hD, if_neg hv]
          · rename_i hD; rw [if_neg hD]
/-- What ends ahead of the joint is read as in the first text. -/
theorem decode_left (a b : ByteArray) (p : Nat) (hp : p < a.size) (h : p + (Utf8.decode (a ++ b) p).2 ≤ a.size) : Utf8.decode a p = Utf8.decode (a ++ b) p := by
  have e : Utf8.decode (a ++ b) p = Lib.decodeN ((a ++ b).size - p) (a.get! p).toNat ((a ++ b).get! (p + 1)).toNat ((a ++ b).get! (p + 2)).toNat ((a ++ b).get! (p + 3)).toNat := by
    rw [Lib.decode_at, get_app_l hp]
  have hsz : a.size - p ≤ (a ++ b).size - p := by rw [ByteArray.size_append]; omega
  rw [e] at h ⊢
  rw [Lib.decode_at, ← decodeN_short ((a ++ b).size - p) (a.size - p) _ _ _ _ (by omega) hsz (by omega)]
  apply decodeN_far
  · intro h1; rw [get_app_l (by omega)]
  · intro h1; rw [get_app_l (by omega)]
  · intro h1; rw [get_app_l (by omega)]
def shift (n : Nat) (c : Ch) : Ch := (n + c.1, c.2)
theorem chs_right (a b : ByteArray) : ∀ (f p : Nat), chs (a ++ b) f (a.size + p) = (chs b f p).map (shift a.size)
  | 0, p => rfl
  | f + 1, p => by
    by_cases hp : p < b.size
    · have h1 : a.size + p < (a ++ b).size := by rw [ByteArray.size_append]; omega
      simp only [chs, hp, h1, if_true, decode_right a b p hp, List.map_cons]
      rw [Nat.add_assoc, chs_right a b f]
      rfl
    · simp [chs, hp]
/-- From a place on that the joint's character reaches: the characters of the first text, then those behind the joint. -/
theorem chs_left (a b : ByteArray) : ∀ (f p : Nat), (a ++ b).size ≤ p + f → p ≤ a.size → (p = a.size ∨ ∃ c ∈ chs (a ++ b) f p, c.1 = a.size) →
    ∃ f', b.size ≤ f' ∧ chs (a ++ b) f p = chs a f p ++ chs (a ++ b) f' a.size
  | 0, p, hf, hp, h => by
    rw [ByteArray.size_append] at hf
    refine ⟨0, by omega, ?_⟩
    rcases h with rfl | ⟨c, hc, _⟩
    · rfl
    · simp [chs] at hc
  | f + 1, p, hf, hp, h => by
    rcases Nat.lt_or_ge p a.size with hlt | hge
    · have h1 : p < (a ++ b).size := by rw [ByteArray.size_append]; omega
      have hw := width_pos (a ++ b) p h1
      have hc : ∃ c ∈ chs (a ++ b) (f + 1) p, c.1 = a.size := by
        rcases h with h | h
        · omega
        · exact h
      obtain ⟨c, hm, hca⟩ := hc
      simp only [chs, h1, if_true, List.mem_cons] at hm
      rcases hm with rfl | hm
      · simp at hca; omega
      · have hge := (chs_at (a ++ b) f _ c hm).1
        have hle : p + (Utf8.decode (a ++ b) p).2 ≤ a.size := by omega
        have hd := decode_left a b p hlt hle
        obtain ⟨f', h2, h3⟩ := chs_left a b f (p + (Utf8.decode (a ++ b) p).2) (by omega) hle (.inr ⟨c, hm, hca⟩)
        refine ⟨f', h2, ?_⟩
        simp only [chs, h1, hlt, if_true, hd]
        rw [h3]
        rfl
    · obtain rfl : p = a.size := by omega
      rw [ByteArray.size_append] at hf
      refine ⟨f + 1, by omega, ?_⟩
      rw [chs_end a (f + 1) a.size (by omega)]
      rfl
theorem chs_fuel (s : ByteArray) : ∀ (f g p : Nat), s.size ≤ p + f → s.size ≤ p + g → chs s f p = chs s g p
  | 0, g, p, hf, _ => by rw [chs_end s 0 p (by omega), chs_end s g p (by omega)]
  | f + 1, 0, p, _, hg => by rw [chs_end s (f + 1) p (by omega), chs_end s 0 p (by omega)]
  | f + 1, g + 1, p, hf, hg => by
    by_cases hp : p < s.size
    · have hw := width_pos s p hp
      simp only [chs, hp, if_true]
      rw [chs_fuel s f g _ (by omega) (by omega)]
    · simp [chs, hp]
/-- A character begins at the joint: then the characters are those of both. -/
theorem chars_join (a b : ByteArray) (h : a.size = 0 ∨ ∃ c ∈ chars (a ++ b), c.1 = a.size) : chars (a ++ b) = chars a ++ (chars b).map (shift a.size) := by
  have h' : (0 = a.size ∨ ∃ c ∈ chs (a ++ b) (a ++ b).size 0, c.1 = a.size) := by
    rcases h with h | h
    · exact .inl h.symm
    · exact .inr h
  obtain ⟨f', h1, h2⟩ := chs_left a b (a ++ b).size 0 (by omega) (by omega) h'
  unfold chars
  rw [h2, show chs (a ++ b) f' a.size = chs (a ++ b) f' (a.size + 0) from rfl, chs_right a b f' 0, chs_fuel b f' b.size 0 (by omega) (by omega), chs_fuel a (a ++ b).size a.size 0 (by rw [ByteArray.size_append]; omega) (by omega)]
def shiftC (n : Nat) (y : Cel) : Cel := (n + y.1, n + y.2.1, y.2.2)
theorem celStep_shift (n : Nat) (out rest : List Cel) (c : Ch) (hne : rest ≠ []) : celStep (out ++ rest.map (shiftC n)) (shift n c) = out ++ (celStep rest c).map (shiftC n) := by
  rcases List.eq_nil_or_concat rest with h0 | ⟨i, y, h0⟩
  · exact absurd h0 hne
  · rw [List.concat_eq_append] at h0
    subst h0
    by_cases hz : wid c.2.1 = 0
    · rw [celStep_more _ _ _ hz, List.map_append, ← List.append_assoc, List.map_singleton]
      rw [celStep_more (out ++ i.map (shiftC n)) (shiftC n y) (shift n c) hz]
      simp [shiftC, shift, Nat.add_assoc]
    · rw [celStep_new _ _ hz, celStep_new _ (shift n c) hz]
      simp [celNew, shiftC, shift, Nat.add_assoc, hz]
theorem celStep_ne (out : List Cel) (c : Ch) : celStep out c ≠ [] := by
  unfold celStep
  split
  · split <;> simp
  · simp
theorem foldl_shift (n : Nat) (out : List Cel) : ∀ (l : List Ch) (rest : List Cel), rest ≠ [] → (l.map (shift n)).foldl celStep (out ++ rest.map (shiftC n)) = out ++ (l.foldl celStep rest).map (shiftC n)
  | [], rest, _ => rfl
  | c :: l, rest, h => by
    simp only [List.map_cons, List.foldl_cons]
    rw [celStep_shift n out rest c h]
    exact foldl_shift n out l _ (celStep_ne _ _)
/-- The second text begins a cell of its own: then the cells are those of both. -/
theorem wide_join (a b : ByteArray) (h : a.size = 0 ∨ ∃ c ∈ chars (a ++ b), c.1 = a.size) (c : Ch) (l : List Ch) (hb : chars b = c :: l) (hc : wid c.2.1 ≠ 0) : wide (a ++ b) = wide a + wide b := by
  have e : cells (a ++ b) = cells a ++ (cells b).map (shiftC a.size) := by
    unfold cells celsOf
    rw [chars_join a b h, List.foldl_append, hb]
    simp only [List.map_cons, List.foldl_cons]
    rw [celStep_new _ (shift a.size c) hc, show [celNew (shift a.size c)] = [celNew c].map (shiftC a.size) by simp [celNew, shiftC, shift, Nat.add_assoc, hc], foldl_shift _ _ _ _ (by simp), celStep_nil]
  unfold wide sumW
  rw [e]
  simp [shiftC, Function.comp_def]
theorem wide_nil (a b : ByteArray) (h : b.size = 0) : wide (a ++ b) = wide a := by
  obtain rfl : b = ByteArray.empty := by
    cases b with | mk d => cases d with | mk l => cases l with | nil => rfl | cons x y => simp [ByteArray.size] at h
  rw [ByteArray.append_empty]
end Go.Proofs.YtoeknophfcfahaaGreatDoor
