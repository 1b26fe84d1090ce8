/- Plain: a name between two blanks is the same name. Nothing of the program is in it. -/
import Derived.Test.YtaikecdafcmdaaaDoorNb
import Derived.Test.YtaikecdafcmdaaaDoorJoinn
import Derived.Lib.MapLaws
namespace Go.Proofs.YtaikecdafcmdaaaDoor
open Go.RowKit Go.Maps
set_option linter.unusedVariables false

def spB : ByteArray := ⟨#[32]⟩
theorem noB {f : ByteArray} (h : f.size = 0) : f = ByteArray.empty := by
  have : f.data = #[] := Array.eq_empty_of_size_eq_zero h
  cases f; cases this; rfl
theorem spB_size : spB.size = 1 := rfl
theorem fit_blank (s : ByteArray) (p : Nat) (hp : p < s.size) : p + (Utf8.decode (s ++ spB) p).2 ≤ s.size := by
  have g : ∀ j, p + j = s.size → ((s ++ spB).get! (p + j)).toNat = 32 := by
    intro j h
    rw [h, show s.size = s.size + 0 from rfl, get_app_r (by rw [spB_size]; omega)]
    rfl
  have g1 := g 1
  have g2 := g 2
  have g3 := g 3
  rw [Lib.decode_at]
  generalize ((s ++ spB).get! (p + 1)).toNat = b1 at g1 ⊢
  generalize ((s ++ spB).get! (p + 2)).toNat = b2 at g2 ⊢
  generalize ((s ++ spB).get! (p + 3)).toNat = b3 at g3 ⊢
  rcases Lib.decodeN_shape ((s ++ spB).size - p) ((s ++ spB).get! p).toNat b1 b2 b3 with ⟨_, e⟩ | ⟨_, _, h1, _, e⟩ | ⟨_, _, h1, h2, _, _, e⟩ | ⟨_, _, h1, h2, h3, _, _, e⟩ | e <;> rw [e] <;> simp only []
  · omega
  · by_cases q1 : p + 1 = s.size
    · have := g1 q1; omega
    · omega
  · by_cases q1 : p + 1 = s.size
    · have := g1 q1; omega
    · by_cases q2 : p + 2 = s.size
      · have := g2 q2; omega
      · omega
  · by_cases q1 : p + 1 = s.size
    · have := g1 q1; omega
    · by_cases q2 : p + 2 = s.size
      · have := g2 q2; omega
      · by_cases q3 : p + 3 = s.size
        · have := g3 q3; omega
        · omega
  · omega
theorem bound_blank (s : ByteArray) : ∀ f p, s.size + 1 ≤ p + f → p ≤ s.size → ∃ c ∈ chs (s ++ spB) f p, c.1 = s.size
  | 0, p, h1, h2 => by omega
  | f + 1, p, h1, h2 => by
    have hlt : p < (s ++ spB).size := by rw [ByteArray.size_append, spB_size]; omega
    simp only [chs, hlt, if_true, List.mem_cons]
    by_cases h : p = s.size
    · exact ⟨_, .inl rfl, h⟩
    · have hf := fit_blank s p (by omega)
      have hw := width_pos (s ++ spB) p hlt
      obtain ⟨c, hc, e⟩ := bound_blank s f (p + (Utf8.decode (s ++ spB) p).2) (by omega) hf
      exact ⟨c, .inr hc, e⟩
theorem chars_sp : chars spB = [(0, 32, 1)] := by kernel_rfl
theorem chars_blank_r (s : ByteArray) : chars (s ++ spB) = chars s ++ [(s.size, 32, 1)] := by
  rw [chars_join s spB (.inr (bound_blank s _ 0 (by rw [ByteArray.size_append, spB_size]; omega) (by omega))), chars_sp]
  rfl
theorem dec_blank (t : ByteArray) : Utf8.decode (spB ++ t) 0 = (32, 1) := by
  rw [Lib.decode_at, get_app_l (by rw [spB_size]; omega)]
  unfold Lib.decodeN
  rw [if_pos (by decide)]
  rfl
theorem chars_blank_l (t : ByteArray) : chars (spB ++ t) = (0, 32, 1) :: (chars t).map (shift 1) := by
  by_cases h0 : t.size = 0
  · have e := noB h0
    rw [e]
    exact show chars (spB ++ ByteArray.empty) = (0, 32, 1) :: (chars ByteArray.empty).map (shift 1) by kernel_rfl
  · have hm : ∃ c ∈ chars (spB ++ t), c.1 = spB.size := by
      have hz : (spB ++ t).size = t.size + 1 := by rw [ByteArray.size_append, spB_size]; omega
      obtain ⟨n, hn⟩ : ∃ n, t.size = n + 1 := ⟨t.size - 1, by omega⟩
      unfold chars
      rw [hz, hn]
      have h1 : 0 < (spB ++ t).size := by omega
      have h2 : 1 < (spB ++ t).size := by omega
      refine ⟨(1, Utf8.decode (spB ++ t) 1), ?_, rfl⟩
      simp only [chs, h1, if_true, dec_blank, Nat.zero_add, h2, List.mem_cons]
      simp
    rw [chars_join spB t (.inr hm), chars_sp]
    rfl
theorem foldl_same {α β : Type} (f g : β → α → β) : ∀ (l : List α) (b : β), (∀ c ∈ l, ∀ b, f b c = g b c) → l.foldl f b = l.foldl g b
  | [], b, _ => rfl
  | c :: l, b, h => by
    rw [List.foldl_cons, List.foldl_cons, h c (by simp) b]
    exact foldl_same f g l _ fun d hd => h d (by simp [hd])
theorem fold_blank (s : ByteArray) (hp : ∀ c ∈ chars s, unplain c = false) : fold (spB ++ s ++ spB) = fold s := by
  unfold fold foldOf
  rw [chars_blank_r, chars_blank_l]
  rw [List.foldl_append, List.foldl_cons, List.foldl_cons, List.foldl_nil, List.foldl_map]
  have e1 : foldStep (spB ++ s ++ spB) (ByteArray.empty, false) (0, 32, 1) = (ByteArray.empty, false) := by
    unfold foldStep
    rw [if_pos rfl]
    kernel_rfl
  rw [e1]
  have e2 : ∀ (st : ByteArray × Bool) (n : Nat), (foldStep (spB ++ s ++ spB) st (n, 32, 1)).1 = st.1 := by
    intro st n
    unfold foldStep
    rw [if_pos rfl]
  rw [e2]
  congr 1
  refine foldl_same _ _ _ _ fun c hc st => ?_
  have hb : badB c = false := by
    have := hp c hc
    unfold unplain at this
    rw [Bool.or_eq_false_iff] at this
    exact this.1
  have hb' : badB (shift 1 c) = false := hb
  unfold foldStep foldCh
  rw [hb, hb']
  rfl
theorem nrm_plain {s : ByteArray} (h : (nrm s).2 = 0) : ∀ c ∈ chars s, unplain c = false := by
  unfold nrm at h
  split at h
  · simp at h
  · split at h
    · simp at h
    · rename_i h1 h2
      have h3 : ((chars s).find? unplain).isNone = true := by
        cases e : ((chars s).find? unplain).isNone
        · exact absurd (.inl e) h2
        · rfl
      rw [Option.isNone_iff_eq_none, List.find?_eq_none] at h3
      intro c hc
      simpa using h3 c hc
theorem nrm_blank {s : ByteArray} (h : (nrm s).2 = 0) (hs : s.size + 2 ≤ 64) : nrm (spB ++ s ++ spB) = nrm s := by
  have hp := nrm_plain h
  have hf := fold_blank s hp
  obtain ⟨h1, _, h3⟩ := nrm_ok h
  have hn : (chars (spB ++ s ++ spB)).find? unplain = none := by
    rw [List.find?_eq_none, chars_blank_r, chars_blank_l]
    intro c hc
    simp only [List.mem_append, List.mem_cons, List.mem_map, List.not_mem_nil, or_false] at hc
    rcases hc with (rfl | ⟨d, hd, rfl⟩) | rfl
    · decide
    · have := hp d hd
      show ¬ unplain (shift 1 d) = true
      rw [show unplain (shift 1 d) = unplain d from rfl, this]
      decide
    · show ¬ unplain ((spB ++ s).size, 32, 1) = true
      rw [show unplain ((spB ++ s).size, 32, 1) = unplain (0, 32, 1) from rfl]
      decide
  have hz : (spB ++ s ++ spB).size = s.size + 2 := by rw [ByteArray.size_append, ByteArray.size_append, spB_size]; omega
  have hn0 : (chars s).find? unplain = none := by
    rw [List.find?_eq_none]
    intro c hc
    rw [hp c hc]
    decide
  unfold nrm
  rw [hz, hf, hn, hn0, if_neg (by omega), if_neg (show ¬ 64 < s.size by omega)]
end Go.Proofs.YtaikecdafcmdaaaDoor
