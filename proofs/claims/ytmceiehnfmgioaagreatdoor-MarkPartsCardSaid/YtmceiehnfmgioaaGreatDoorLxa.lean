/- Plain mathematics: a line of a paragraph, character by character. -/
import Derived.Test.YtmceiehnfmgioaaGreatDoorLx9
namespace Go.Proofs.YtmceiehnfmgioaaGreatDoor
open Go
set_option linter.unusedVariables false

theorem byte_of {a : Int} {n : Nat} (h : a = n) : a.toNat.toUInt8 = UInt8.ofNat n := by subst h; rfl
theorem enc_rune (r : Int) : (⟨(Lib.encodeRune r).toArray⟩ : ByteArray) = Utf8.encode r := by
  by_cases hbad : r < 0 ∨ (55296 ≤ r ∧ r ≤ 57343) ∨ 1114111 < r
  · have hv : Utf8.valid r = false := by
      simp only [Utf8.valid, Bool.or_eq_false_iff, Bool.and_eq_false_iff, decide_eq_false_iff_not]
      omega
    unfold Lib.encodeRune Utf8.encode
    rw [Lib.encodeRuneZ_bad hbad]
    simp only [hv, Bool.false_eq_true, if_false]
    rfl
  · have hv : Utf8.valid r = true := by
      simp only [Utf8.valid, Bool.or_eq_true, Bool.and_eq_true, decide_eq_true_eq]
      omega
    obtain ⟨n, rfl⟩ : ∃ n : Nat, r = n := ⟨r.toNat, by omega⟩
    unfold Lib.encodeRune Utf8.encode
    simp only [hv, if_true, Int.toNat_natCast]
    by_cases h1 : n < 128
    · rw [Lib.encodeRuneZ_one (by omega) (by omega), if_pos (by omega)]
      rfl
    · by_cases h2 : n < 2048
      · rw [Lib.encodeRuneZ_two (by omega) (by omega), if_neg (by omega), if_pos (by omega)]
        simp only [List.map_cons, List.map_nil]
        rw [byte_of (n := 0xC0 + n / 64) (by omega), byte_of (n := 0x80 + n % 64) (by omega)]
      · by_cases h3 : n < 65536
        · rw [Lib.encodeRuneZ_three (by omega), if_neg (by omega), if_neg (by omega), if_pos (by omega)]
          simp only [List.map_cons, List.map_nil]
          rw [byte_of (n := 0xE0 + n / 4096) (by omega), byte_of (n := 0x80 + n / 64 % 64) (by omega), byte_of (n := 0x80 + n % 64) (by omega)]
        · rw [Lib.encodeRuneZ_four (by omega) (by omega), if_neg (by omega), if_neg (by omega), if_neg (by omega)]
          simp only [List.map_cons, List.map_nil]
          rw [byte_of (n := 0xF0 + n / 262144) (by omega), byte_of (n := 0x80 + n / 4096 % 64) (by omega), byte_of (n := 0x80 + n / 64 % 64) (by omega), byte_of (n := 0x80 + n % 64) (by omega)]
theorem enc_bs (r : Int) : Utf8.encode r = bs (Lib.encodeRune r) := (enc_rune r).symm
theorem fill_gap (m : Mk) : m.fill.gap = none := by unfold Mk.fill; split <;> simp_all
theorem char_char (m : Mk) (b : UInt8) (s : List UInt8) (p q : Nat × Nat) : (m.char [b] p).char s q = m.char (b :: s) p := by
  have h1 : (m.char [b] p).gap = none := fill_gap m
  have h2 : (m.char [b] p).fill = m.char [b] p := by
    unfold Mk.fill
    rw [h1]
  unfold Mk.char at h2 ⊢
  rw [h2]
  simp [Mk.gather]
theorem textM_char (n : Nat) (b : UInt8) (r : List UInt8) (col : Nat) (m : Mk) (h : isB b = false) (h1 : b ≠ 92) (h2 : b ≠ 123) (h3 : b ≠ 125) (h4 : b ≠ 124 ∨ m.opn = []) :
    textM n (b :: r) col 0 m = textM n r (col + 1) 0 (m.char [b] (n, col)) := by
  have e4 : (b == 124 && !m.opn.isEmpty) = false := by
    rcases h4 with h | h
    · have : (b == 124) = false := by simpa using h
      rw [this]; rfl
    · rw [h]; simp
  rw [textM]
  simp only [h, beq_eq_false_iff_ne.2 h1, beq_eq_false_iff_ne.2 h2, beq_eq_false_iff_ne.2 h3, e4, Bool.false_eq_true, if_false]
theorem high_not {b : UInt8} (h : 128 ≤ b.toNat) : isB b = false ∧ b ≠ 92 ∧ b ≠ 123 ∧ b ≠ 125 ∧ b ≠ 124 := by
  refine ⟨?_, ?_, ?_, ?_, ?_⟩
  · unfold isB
    have h1 : (b == 32) = false := by rw [beq_eq_false_iff_ne]; intro e; subst e; simp at h
    have h2 : (b == 9) = false := by rw [beq_eq_false_iff_ne]; intro e; subst e; simp at h
    rw [h1, h2]; rfl
  all_goals (intro e; subst e; simp at h)
theorem textM_high (n : Nat) : ∀ (s : List UInt8) (r : List UInt8) (col : Nat) (m : Mk), s ≠ [] → (∀ b ∈ s, 128 ≤ b.toNat) → textM n (s ++ r) col 0 m = textM n r (col + s.length) 0 (m.char s (n, col))
  | [], _, _, _, h, _ => absurd rfl h
  | [b], r, col, m, _, h => by
    obtain ⟨q0, q1, q2, q3, q4⟩ := high_not (h b (by simp))
    exact textM_char n b r col m q0 q1 q2 q3 (.inl q4)
  | b :: c :: s, r, col, m, _, h => by
    obtain ⟨q0, q1, q2, q3, q4⟩ := high_not (h b (by simp))
    show textM n (b :: (c :: s ++ r)) col 0 m = _
    rw [textM_char n b _ col m q0 q1 q2 q3 (.inl q4), textM_high n (c :: s) r (col + 1) _ (by simp) (fun x hx => h x (List.mem_cons_of_mem _ hx)), char_char]
    congr 1
    simp; omega

theorem decodeN_high (n b0 b1 b2 b3 : Nat) : (Lib.decodeN n b0 b1 b2 b3).2 ≤ 4 ∧ (2 ≤ (Lib.decodeN n b0 b1 b2 b3).2 → 128 ≤ b0 ∧ 128 ≤ b1 ∧ 128 ≤ (Lib.decodeN n b0 b1 b2 b3).1) ∧ (3 ≤ (Lib.decodeN n b0 b1 b2 b3).2 → 128 ≤ b2) ∧ (4 ≤ (Lib.decodeN n b0 b1 b2 b3).2 → 128 ≤ b3) ∧
    ((Lib.decodeN n b0 b1 b2 b3).2 ≤ 1 → b0 < 128 ∧ Lib.decodeN n b0 b1 b2 b3 = (b0, 1) ∨ Lib.decodeN n b0 b1 b2 b3 = (65533, 1)) := by
  unfold Lib.decodeN
  repeat' split
  all_goals simp only []
  all_goals simp
  all_goals omega
/-- What a character that is not bad is: a byte below 128, or some of which none is. -/
theorem char_ok {l : List UInt8} {pos : Nat} (hp : pos < l.length) (hb : badB (pos, (Utf8.decode (bs l) pos).1, (Utf8.decode (bs l) pos).2) = false) :
    (∃ b r, l.drop pos = b :: r ∧ b.toNat < 128 ∧ Utf8.decode (bs l) pos = (b.toNat, 1)) ∨
    (∃ s r, l.drop pos = s ++ r ∧ s ≠ [] ∧ (∀ b ∈ s, 128 ≤ b.toNat) ∧ (Utf8.decode (bs l) pos).2 = s.length ∧ 128 ≤ (Utf8.decode (bs l) pos).1 ∧ Utf8.encode ((Utf8.decode (bs l) pos).1 : Int) = bs s) := by
  have hsz : (bs l).size = l.length := bs_size l
  have hfit := decode_fits (bs l) pos (by rw [hsz]; exact hp)
  have hN := decodeN_high ((bs l).size - pos) ((bs l).get! pos).toNat ((bs l).get! (pos + 1)).toNat ((bs l).get! (pos + 2)).toNat ((bs l).get! (pos + 3)).toNat
  rw [← Lib.decode_at] at hN
  obtain ⟨n1, n2, n3, n4, n5⟩ := hN
  have hw := width_pos (bs l) pos (by rw [hsz]; exact hp)
  simp only [get_bs] at n2 n3 n4 n5
  rw [hsz] at hfit
  have hget : ∀ k, pos + k < l.length → l.getD (pos + k) 0 = l[pos + k]! := fun k hk => by simp [List.getD_eq_getElem?_getD, hk]
  by_cases h2 : 2 ≤ (Utf8.decode (bs l) pos).2
  · right
    have hD : Lib.decodeL (l.drop pos) = Utf8.decode (bs l) pos := by
      have := Lib.decodeL_drop (bs l) pos
      simpa [bs] using this
    refine ⟨(l.drop pos).take (Utf8.decode (bs l) pos).2, (l.drop pos).drop (Utf8.decode (bs l) pos).2, (List.take_append_drop _ _).symm, ?_, ?_, ?_, (n2 h2).2.2, ?_⟩
    · intro e
      have := congrArg List.length e
      simp at this
      omega
    · intro b hb'
      obtain ⟨k, hk, rfl⟩ := List.getElem_of_mem hb'
      have hk2 : k < (Utf8.decode (bs l) pos).2 := by simp at hk; omega
      have e : ((l.drop pos).take (Utf8.decode (bs l) pos).2)[k] = l.getD (pos + k) 0 := by
        rw [List.getElem_take, List.getElem_drop]
        simp [List.getD_eq_getElem?_getD, show pos + k < l.length by omega]
      rw [e]
      have hk4 : k = 0 ∨ k = 1 ∨ k = 2 ∨ k = 3 := by omega
      rcases hk4 with rfl | rfl | rfl | rfl
      · exact (n2 h2).1
      · exact (n2 h2).2.1
      · exact n3 (by omega)
      · exact n4 (by omega)
    · rw [List.length_take, List.length_drop]; omega
    · rw [enc_bs]
      have := Lib.encode_decode (l.drop pos) (by intro e; have := congrArg List.length e; simp at this; omega) (by rw [hD]; rintro ⟨_, q⟩; omega)
      rw [hD] at this
      rw [this]
  · left
    rcases n5 (by omega) with ⟨q1, q2⟩ | q
    · refine ⟨l.getD pos 0, l.drop (pos + 1), ?_, q1, q2⟩
      rw [List.drop_eq_getElem_cons hp]
      simp [List.getD_eq_getElem?_getD, hp]
    · rw [q] at hb
      simp [badB] at hb

theorem textM_blank (n : Nat) (b : UInt8) (r : List UInt8) (col : Nat) (m : Mk) (h : isB b = true) : textM n (b :: r) col 0 m = textM n r (col + 1) 0 (m.blank (n, col)) := by
  rw [textM, if_pos h]
theorem textM_esc_ok (n : Nat) (d : UInt8) (r : List UInt8) (col : Nat) (m : Mk) (h : r.head? = some d) (hs : special d = true) : textM n (92 :: r) col 0 m = textM n r (col + 1) 1 (m.char [d] (n, col)) := by
  rw [textM, if_neg (by decide), if_pos (by decide), h]
  show (if special d = true then _ else _) = _
  rw [if_pos hs]
theorem textM_esc_err (n : Nat) (r : List UInt8) (col : Nat) (m : Mk) {x : Nat × List UInt8} (h : escL r = .error x) : textM n (92 :: r) col 0 m = .error ⟨x.1, n, col, x.2⟩ := by
  rw [textM, if_neg (by decide), if_pos (by decide)]
  unfold escL at h
  cases hr : r.head? with
  | none => rw [hr] at h; cases h; rfl
  | some d =>
    rw [hr] at h
    show (if special d = true then _ else _) = _
    by_cases hs : special d = true
    · simp only [hs, if_true] at h; cases h
    · rw [if_neg hs]; simp only [hs] at h; cases h; rfl
theorem escL_ok {r s : List UInt8} (h : escL r = .ok s) : ∃ d, r.head? = some d ∧ special d = true ∧ s = [d] := by
  unfold escL at h
  cases hr : r.head? with
  | none => rw [hr] at h; cases h
  | some d =>
    rw [hr] at h
    by_cases hs : special d = true
    · simp only [hs, if_true] at h; cases h; exact ⟨d, rfl, hs, rfl⟩
    · simp only [hs] at h; cases h
theorem textM_open_err (n : Nat) (r : List UInt8) (col : Nat) (m : Mk) {x : Wr} (h : openR m r n col = .error x) : textM n (123 :: r) col 0 m = .error x := by
  rw [textM, if_neg (by decide), if_neg (by decide), if_pos (by decide)]
  unfold openR braceL at h
  by_cases h1 : named (letL r) (r.drop (letL r).length) [32, 9, 124, 125] = true
  · rw [if_pos h1] at h ⊢
    have h' : (if 16 ≤ m.opn.length then Except.error (⟨46, n, col, letL r⟩ : Wr) else .ok (letL r, m.openB (letL r) (n, col))) = .error x := h
    by_cases h2 : 16 ≤ m.opn.length
    · rw [if_pos h2] at h' ⊢; cases h'; rfl
    · rw [if_neg h2] at h'; cases h'
  · rw [if_neg h1] at h ⊢
    have h' : (Except.error (⟨43, n, col, []⟩ : Wr) : Except Wr (List UInt8 × Mk)) = .error x := h
    cases h'; rfl
theorem textM_open_ok (n : Nat) (r : List UInt8) (col : Nat) (m : Mk) {x : List UInt8 × Mk} (h : openR m r n col = .ok x) : x.1 = letL r ∧ x.2 = m.openB (letL r) (n, col) ∧ textM n (123 :: r) col 0 m = textM n r (col + 1) (letL r).length x.2 := by
  unfold openR braceL at h
  rw [textM, if_neg (by decide), if_neg (by decide), if_pos (by decide)]
  by_cases h1 : named (letL r) (r.drop (letL r).length) [32, 9, 124, 125] = true
  · rw [if_pos h1] at h ⊢
    have h' : (if 16 ≤ m.opn.length then Except.error (⟨46, n, col, letL r⟩ : Wr) else .ok (letL r, m.openB (letL r) (n, col))) = .ok x := h
    by_cases h2 : 16 ≤ m.opn.length
    · rw [if_pos h2] at h'; cases h'
    · rw [if_neg h2] at h' ⊢; cases h'; exact ⟨rfl, rfl, rfl⟩
  · rw [if_neg h1] at h
    have h' : (Except.error (⟨43, n, col, []⟩ : Wr) : Except Wr (List UInt8 × Mk)) = .ok x := h
    cases h'
theorem textM_close_err (n : Nat) (r : List UInt8) (col : Nat) (m : Mk) {x : Wr} (h : closeR m n col = .error x) : textM n (125 :: r) col 0 m = .error x := by
  rw [textM, if_neg (by decide), if_neg (by decide), if_neg (by decide), if_pos (by decide)]
  unfold closeR at h
  split at h <;> simp_all
theorem textM_close_ok (n : Nat) (r : List UInt8) (col : Nat) (m : Mk) {m' : Mk} (h : closeR m n col = .ok m') : m' = m.closeB (n, col) ∧ textM n (125 :: r) col 0 m = textM n r (col + 1) 0 m' := by
  rw [textM, if_neg (by decide), if_neg (by decide), if_neg (by decide), if_pos (by decide)]
  unfold closeR at h
  split at h <;> simp_all
theorem textM_bar (n : Nat) (r : List UInt8) (col : Nat) (m : Mk) (h : m.opn ≠ []) : textM n (124 :: r) col 0 m = textM n r (col + 1) 0 (m.within 4 [] (n, col)) := by
  rw [textM, if_neg (by decide), if_neg (by decide), if_neg (by decide), if_neg (by decide), if_pos (by simpa using h)]
theorem textM_skip (n : Nat) (b : UInt8) (r : List UInt8) (col k : Nat) (m : Mk) : textM n (b :: r) col (k + 1) m = textM n r (col + 1) k m := by rw [textM]
theorem letL_asc (r : List UInt8) (j : Nat) (b : UInt8) (hj : j < (letL r).length) (h : r[j]? = some b) : b.toNat < 128 := by
  unfold letL at hj
  have h1 := List.takeWhile_append_dropWhile (p := isL) (l := r)
  have h2 : (r.takeWhile isL)[j]? = some b := by
    rw [← h, ← List.getElem?_append_left (l₂ := r.dropWhile isL) hj, h1]
  have h3 := List.mem_of_getElem? h2
  have h4 : isL b = true := by
    have := List.all_takeWhile (p := isL) (l := r)
    exact List.all_eq_true.1 this b h3
  have := all_bytes (p := fun c => !isL c || decide (c.toNat < 128)) (by decide +kernel) b
  rw [h4] at this
  simpa using this
end Go.Proofs.YtmceiehnfmgioaaGreatDoor
