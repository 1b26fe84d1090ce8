/- Plain facts: what is escaped is one run. Nothing of the program is in it. -/
import Derived.Test.YtmceiehnfmgioaaGreatDoorTk4
import Derived.Test.YtmceiehnfmgioaaGreatDoorEsc
import Derived.Test.YtmceiehnfmgioaaGreatDoorBr
import Derived.Test.YtmceiehnfmgioaaGreatDoorPts
namespace Go.Proofs.YtmceiehnfmgioaaGreatDoor
open Go
set_option linter.unusedVariables false

/-- Every character may stand in a comment or a plain text. -/
def PlainL (l : List UInt8) : Prop := (chars (bs l)).find? unplain = none
theorem bs_toList (l : List UInt8) : (bs l).data.toList = l := by simp [bs]
theorem chOf_all {q : Nat → Bool} : ∀ (L : List Tk) (p : Nat), (∀ c ∈ chOf p L, (badB c || q c.2.1) = false) → ∀ t ∈ L, t.isBad = false ∧ q t.rn = false
  | [], _, _, t, ht => by cases ht
  | t0 :: L, p, h, t, ht => by
    rcases List.mem_cons.1 ht with rfl | ht
    · have h1 := h _ (List.mem_cons_self)
      rw [badB_tk] at h1
      simpa using h1
    · exact chOf_all L _ (fun c hc => h c (List.mem_cons_of_mem _ hc)) t ht
theorem all_chOf {q : Nat → Bool} : ∀ (L : List Tk) (p : Nat), (∀ t ∈ L, t.isBad = false ∧ q t.rn = false) → ∀ c ∈ chOf p L, (badB c || q c.2.1) = false
  | [], _, _, c, hc => by cases hc
  | t0 :: L, p, h, c, hc => by
    rcases List.mem_cons.1 hc with rfl | hc
    · obtain ⟨h1, h2⟩ := h t0 List.mem_cons_self
      rw [badB_tk, h1, h2]; rfl
    · exact all_chOf L _ (fun t ht => h t (List.mem_cons_of_mem _ ht)) c hc
/-- The pieces of a plain text. -/
theorem plain_pieces {l : List UInt8} (h : PlainL l) : ∃ L : List Tk, Snd L ∧ l = joinT L ∧ ∀ t ∈ L, t.isBad = false ∧ ctl t.rn = false := by
  obtain ⟨L, h1, h2⟩ := text_pieces (bs l)
  rw [bs_toList] at h2
  refine ⟨L, h1, h2, ?_⟩
  have h3 := chars_pieces (bs l) L h1 (by rw [bs_toList]; exact h2)
  unfold PlainL at h
  rw [h3] at h
  exact chOf_all (q := fun r => ctl r) L 0 (fun c hc => by have := List.find?_eq_none.1 h c hc; simpa [unplain] using this)
theorem pieces_bad {L : List Tk} (hs : Snd L) (h : ∀ t ∈ L, t.isBad = false ∧ ctl t.rn = false) : badAt (joinT L) = none := by
  have h3 := chars_pieces (bs (joinT L)) L hs (bs_toList _)
  unfold badAt
  rw [h3]
  have : (chOf 0 L).find? ubad = none := by
    rw [List.find?_eq_none]
    intro c hc
    have h1 := all_chOf (q := fun r => r != 9 && ctlB r) L 0 (fun t ht => ⟨(h t ht).1, by
      have h2 := (h t ht).2
      unfold ctl inB at h2
      unfold ctlB
      simp at h2 ⊢
      omega⟩) c hc
    unfold ubad
    simpa using h1
  rw [this]
  rfl
theorem plain_badAt {l : List UInt8} (h : PlainL l) : badAt l = none := by
  obtain ⟨L, h1, rfl, h3⟩ := plain_pieces h
  exact pieces_bad h1 h3
/-- The bytes of a code point that stands for itself: one below 128, or all from 128 on. -/
theorem enc_bytes (r : Nat) (h : okR r) : (r < 128 ∧ Lib.encodeRune r = [r.toUInt8]) ∨ (128 ≤ r ∧ ∀ b ∈ Lib.encodeRune r, 128 ≤ b.toNat) := by
  unfold okR at h
  by_cases h1 : r < 128
  · left
    refine ⟨h1, ?_⟩
    unfold Lib.encodeRune
    rw [Lib.encodeRuneZ_one (by omega) (by omega)]
    rfl
  · right
    refine ⟨by omega, ?_⟩
    by_cases h2 : r < 2048
    · unfold Lib.encodeRune
      rw [Lib.encodeRuneZ_two (by omega) (by omega)]
      intro b hb
      simp only [List.map_cons, List.map_nil, List.mem_cons, List.mem_nil_iff, or_false] at hb
      rcases hb with rfl | rfl <;> (rw [toNat_toU8 _ (by omega)]; omega)
    · by_cases h3 : r < 65536
      · unfold Lib.encodeRune
        rw [Lib.encodeRuneZ_three (by omega)]
        intro b hb
        simp only [List.map_cons, List.map_nil, List.mem_cons, List.mem_nil_iff, or_false] at hb
        rcases hb with rfl | rfl | rfl <;> (rw [toNat_toU8 _ (by omega)]; omega)
      · unfold Lib.encodeRune
        rw [Lib.encodeRuneZ_four (by omega) (by omega)]
        intro b hb
        simp only [List.map_cons, List.map_nil, List.mem_cons, List.mem_nil_iff, or_false] at hb
        rcases hb with rfl | rfl | rfl | rfl <;> (rw [toNat_toU8 _ (by omega)]; omega)
theorem snd_good {L : List Tk} (hs : Snd L) (h : ∀ t ∈ L, t.isBad = false) : ∀ t ∈ L, ∃ r, t = .good r ∧ okR r := by
  induction L with
  | nil => intro t ht; cases ht
  | cons a L ih =>
    intro t ht
    rcases List.mem_cons.1 ht with rfl | ht
    · have h1 := h t List.mem_cons_self
      cases t with
      | good r => exact ⟨r, rfl, hs.1⟩
      | bad b => cases h1
    · exact ih (snd_tail hs) (fun t ht => h t (List.mem_cons_of_mem _ ht)) t ht
theorem good_snd {L : List Tk} (h : ∀ t ∈ L, ∃ r, t = .good r ∧ okR r) : Snd L := by
  induction L with
  | nil => trivial
  | cons a L ih =>
    obtain ⟨r, rfl, hr⟩ := h a List.mem_cons_self
    exact ⟨hr, ih fun t ht => h t (List.mem_cons_of_mem _ ht)⟩
/-- No byte of a plain text is below 32. -/
theorem plain_bytes {l : List UInt8} (h : PlainL l) : ∀ b ∈ l, 32 ≤ b.toNat := by
  obtain ⟨L, h1, rfl, h3⟩ := plain_pieces h
  intro b hb
  unfold joinT at hb
  obtain ⟨t, ht, hb⟩ := List.mem_flatMap.1 hb
  obtain ⟨r, rfl, hr⟩ := snd_good h1 (fun t ht => (h3 t ht).1) t ht
  have hc : ctl r = false := (h3 _ ht).2
  have hb' : b ∈ Lib.encodeRune r := hb
  rcases enc_bytes r hr with ⟨h4, h5⟩ | ⟨h4, h5⟩
  · rw [h5] at hb'
    obtain rfl : b = r.toUInt8 := by simpa using hb'
    rw [toNat_toU8 _ (by omega)]
    unfold ctl inB at hc
    simp at hc
    omega
  · have := h5 b hb'; omega
theorem escB_cases (f : Bool) (c : UInt8) : (escB f c = [92, c] ∧ special c = true) ∨ (escB f c = [c] ∧ c ≠ 92 ∧ c ≠ 123 ∧ c ≠ 125 ∧ c ≠ 124 ∧ (f = true → c ≠ 46 ∧ c ≠ 35)) := by
  unfold escB special
  by_cases h : (c == 92 || c == 123 || c == 125 || c == 124 || f && (c == 46 || c == 35)) = true
  · left
    rw [if_pos h]
    refine ⟨rfl, ?_⟩
    revert h
    generalize (c == 92) = a1, (c == 123) = a2, (c == 125) = a3, (c == 124) = a4, (c == 46) = a5, (c == 35) = a6
    revert a1 a2 a3 a4 a5 a6 f
    decide
  · right
    rw [if_neg h]
    simp only [Bool.not_eq_true, Bool.or_eq_false_iff, Bool.and_eq_false_iff, beq_eq_false_iff_ne] at h
    obtain ⟨⟨⟨⟨h1, h2⟩, h3⟩, h4⟩, h5⟩ := h
    exact ⟨rfl, h1, h2, h3, h4, fun hf => by
      rcases h5 with h5 | h5
      · rw [hf] at h5; cases h5
      · exact h5⟩
theorem escG_mem : ∀ (l : List UInt8) (k : Nat) (b : UInt8), b ∈ escG k l → b = 92 ∨ b ∈ l
  | [], _, b, h => by cases h
  | c :: r, k, b, h => by
    unfold escG at h
    rcases List.mem_append.1 h with h | h
    · rcases escB_cases (k == 0) c with ⟨e, _⟩ | ⟨e, _⟩
      · rw [e] at h; simp at h; rcases h with rfl | rfl
        · exact .inl rfl
        · exact .inr List.mem_cons_self
      · rw [e] at h; simp at h; subst h; exact .inr List.mem_cons_self
    · rcases escG_mem r _ b h with h | h
      · exact .inl h
      · exact .inr (List.mem_cons_of_mem _ h)
theorem escG_len : ∀ (l : List UInt8) (k : Nat), (escG k l).length ≤ 2 * l.length ∧ l.length ≤ (escG k l).length
  | [], _ => ⟨Nat.le_refl _, Nat.le_refl _⟩
  | c :: r, k => by
    have ih := escG_len r (k + 1)
    unfold escG
    rw [List.length_append]
    rcases escB_cases (k == 0) c with ⟨e, _⟩ | ⟨e, _⟩ <;> (rw [e]; simp; omega)
theorem escG_high (r : List UInt8) : ∀ (s : List UInt8) (k : Nat), (∀ b ∈ s, 128 ≤ b.toNat) → escG k (s ++ r) = s ++ escG (k + s.length) r
  | [], k, _ => rfl
  | b :: s, k, h => by
    have hb := h b List.mem_cons_self
    have e : escB (k == 0) b = [b] := by
      rcases escB_cases (k == 0) b with ⟨_, e⟩ | ⟨e, _⟩
      · have := special_ascii e; omega
      · exact e
    rw [List.cons_append]
    conv => lhs; unfold escG
    rw [e, escG_high r s (k + 1) (fun b hb => h b (List.mem_cons_of_mem _ hb)), List.length_cons, show k + (s.length + 1) = k + 1 + s.length by omega]
    rfl
/-- What is escaped of a plain text is made of good characters. -/
theorem esc_pieces : ∀ (L : List Tk) (k : Nat), (∀ t ∈ L, (∃ r, t = .good r ∧ okR r) ∧ ctl t.rn = false) → ∃ L' : List Tk, escG k (joinT L) = joinT L' ∧ ∀ t ∈ L', (∃ r, t = .good r ∧ okR r) ∧ ctl t.rn = false
  | [], _, _ => ⟨[], rfl, fun t ht => by cases ht⟩
  | t0 :: L, k, h => by
    obtain ⟨⟨r, rfl, hr⟩, hc⟩ := h t0 List.mem_cons_self
    have ih := fun k => esc_pieces L k (fun t ht => h t (List.mem_cons_of_mem _ ht))
    have h0 : joinT (.good r :: L) = Lib.encodeRune r ++ joinT L := rfl
    rcases enc_bytes r hr with ⟨h4, h5⟩ | ⟨h4, h5⟩
    · obtain ⟨L', e1, e2⟩ := ih (k + 1)
      rw [h0, h5]
      show ∃ L', escB (k == 0) r.toUInt8 ++ escG (k + 1) (joinT L) = joinT L' ∧ _
      have e3 : joinT (.good r :: L') = [r.toUInt8] ++ joinT L' := by show Lib.encodeRune r ++ joinT L' = _; rw [h5]
      rcases escB_cases (k == 0) r.toUInt8 with ⟨e, _⟩ | ⟨e, _⟩
      · refine ⟨.good 92 :: .good r :: L', ?_, ?_⟩
        · rw [e, e1]
          show _ = Lib.encodeRune (92 : Nat) ++ joinT (.good r :: L')
          rw [e3]
          rfl
        · intro t ht
          rcases List.mem_cons.1 ht with rfl | ht
          · exact ⟨⟨92, rfl, .inl (by omega)⟩, by decide⟩
          rcases List.mem_cons.1 ht with rfl | ht
          · exact ⟨⟨r, rfl, hr⟩, hc⟩
          · exact e2 t ht
      · refine ⟨.good r :: L', by rw [e, e1, e3], ?_⟩
        intro t ht
        rcases List.mem_cons.1 ht with rfl | ht
        · exact ⟨⟨r, rfl, hr⟩, hc⟩
        · exact e2 t ht
    · obtain ⟨L', e1, e2⟩ := ih (k + (Lib.encodeRune r).length)
      refine ⟨.good r :: L', by rw [h0, escG_high _ _ _ h5, e1]; rfl, ?_⟩
      intro t ht
      rcases List.mem_cons.1 ht with rfl | ht
      · exact ⟨⟨r, rfl, hr⟩, hc⟩
      · exact e2 t ht
theorem esc_badAt {l : List UInt8} (h : PlainL l) : badAt (escM l) = none := by
  obtain ⟨L, h1, rfl, h3⟩ := plain_pieces h
  obtain ⟨L', e1, e2⟩ := esc_pieces L 0 (fun t ht => ⟨snd_good h1 (fun t ht => (h3 t ht).1) t ht, (h3 t ht).2⟩)
  unfold escM
  rw [e1]
  exact pieces_bad (good_snd fun t ht => (e2 t ht).1) (fun t ht => ⟨by obtain ⟨⟨r, rfl, _⟩, _⟩ := e2 t ht; rfl, (e2 t ht).2⟩)
/-- The lexer has gathered this and nothing else. -/
structure One (p : List UInt8) (m : Mk) : Prop where
  opn : m.opn = []
  out : m.out = []
  z : p = [] → m.run = [] ∧ m.gap = none ∧ m.parts = false
  s : p ≠ [] → m.run ≠ [] ∧ m.beg = (1, 1) ∧ m.parts = true
  full : m.run ++ (if m.gap.isSome then [32] else []) = p
theorem One.fill {p : List UInt8} {m : Mk} (h : One p m) : m.fill.run = p ∧ m.fill.gap = none ∧ m.fill.opn = [] ∧ m.fill.out = [] ∧ (p ≠ [] → m.fill.beg = (1, 1)) := by
  cases hg : m.gap with
  | none =>
    have e : m.fill = m := by unfold Mk.fill; rw [hg]
    have hf := h.full
    rw [hg] at hf
    rw [e]
    exact ⟨by simpa using hf, hg, h.opn, h.out, fun hp => (h.s hp).2.1⟩
  | some q =>
    have e : m.fill = { m.gather [32] q with gap := none } := by unfold Mk.fill; rw [hg]
    have hf := h.full
    rw [hg] at hf
    have hp : p ≠ [] := fun hp => by have := (h.z hp).2.1; rw [hg] at this; cases this
    obtain ⟨h1, h2, h3⟩ := h.s hp
    rw [e]
    refine ⟨hf, rfl, h.opn, h.out, fun _ => ?_⟩
    show (if m.run = [] then q else m.beg) = (1, 1)
    rw [if_neg h1, h2]
theorem One.char {p : List UInt8} {m : Mk} (h : One p m) (c : UInt8) (col : Nat) (hc : p = [] → col = 1) : One (p ++ [c]) (m.char [c] (1, col)) := by
  obtain ⟨h1, h2, h3, h4, h5⟩ := h.fill
  have hr : (m.char [c] (1, col)).run = p ++ [c] := by show m.fill.run ++ [c] = _; rw [h1]
  have hg : (m.char [c] (1, col)).gap = none := h2
  refine ⟨h3, h4, fun e => by simp at e, fun _ => ⟨by rw [hr]; simp, ?_, rfl⟩, by rw [hr, hg]; simp⟩
  show (if m.fill.run = [] then (1, col) else m.fill.beg) = (1, 1)
  rw [h1]
  by_cases hp : p = []
  · rw [if_pos hp, hc hp]
  · rw [if_neg hp, h5 hp]
theorem One.blank {p : List UInt8} {m : Mk} (h : One p m) (q : Nat × Nat) (hp : p ≠ []) (hl : p.getLast? ≠ some 32) : One (p ++ [32]) (m.blank q) := by
  obtain ⟨h1, h2, h3⟩ := h.s hp
  have hf := h.full
  have hg : m.gap = none := by
    cases hg : m.gap with
    | none => rfl
    | some x => rw [hg] at hf; rw [← hf] at hl; simp at hl
  rw [hg] at hf
  have e : m.blank q = { m with gap := some q } := by unfold Mk.blank; rw [h3, hg]; rfl
  rw [e]
  exact ⟨h.opn, h.out, fun e => by simp at e, fun _ => ⟨h1, h2, h3⟩, by show m.run ++ [32] = _; rw [← hf]; simp⟩
theorem textM_esc1 (n : Nat) : ∀ (s p : List UInt8) (k col : Nat) (m : Mk), One p m → (p = [] → col = 1) → (∀ b ∈ s, b ≠ 9) → noDbl (p ++ s) = true → (p = [] → s.head? ≠ some 32) → ∃ m', textM 1 (escG k s) col 0 m = .ok m' ∧ One (p ++ s) m'
  | [], p, k, col, m, h, hc, h9, hd, hh => ⟨m, rfl, by rw [List.append_nil]; exact h⟩
  | c :: s, p, k, col, m, h, hc, h9, hd, hh => by
    have e0 : p ++ c :: s = (p ++ [c]) ++ s := by simp
    have IH := fun (col' : Nat) (m' : Mk) (h' : One (p ++ [c]) m') => textM_esc1 n s (p ++ [c]) (k + 1) col' m' h' (fun e => by simp at e) (fun b hb => h9 b (List.mem_cons_of_mem _ hb)) (by rw [← e0]; exact hd) (fun e => by simp at e)
    rw [e0]
    show ∃ m', textM 1 (escB (k == 0) c ++ escG (k + 1) s) col 0 m = .ok m' ∧ _
    rcases escB_cases (k == 0) c with ⟨e, hs⟩ | ⟨e, h1, h2, h3, h4, _⟩
    · rw [e]
      obtain ⟨m', g1, g2⟩ := IH (col + 1 + 1) _ (h.char c col hc)
      refine ⟨m', ?_, g2⟩
      show textM 1 (92 :: c :: escG (k + 1) s) col 0 m = _
      rw [textM_esc_ok 1 c (c :: escG (k + 1) s) col m rfl hs, textM_skip]
      exact g1
    · rw [e]
      by_cases hb : c = 32
      · subst hb
        have hp : p ≠ [] := fun hp => hh hp rfl
        have hl : p.getLast? ≠ some 32 := by
          intro hl
          have : ∀ (q : List UInt8), q.getLast? = some 32 → noDbl (q ++ 32 :: s) = true → False := by
            intro q
            induction q with
            | nil => intro hq; cases hq
            | cons a q ih =>
              intro hq hn
              cases q with
              | nil => simp at hq; subst hq; simp [noDbl] at hn
              | cons b q =>
                have hn' : (!(a == 32 && b == 32) && noDbl ((b :: q) ++ 32 :: s)) = true := hn
                rw [Bool.and_eq_true] at hn'
                exact ih (by simpa [List.getLast?_cons_cons] using hq) hn'.2
          exact this p hl hd
        obtain ⟨m', g1, g2⟩ := IH (col + 1) _ (h.blank (1, col) hp hl)
        refine ⟨m', ?_, g2⟩
        show textM 1 (32 :: escG (k + 1) s) col 0 m = _
        rw [textM_blank 1 32 _ col m rfl]
        exact g1
      · have h9c := h9 c List.mem_cons_self
        obtain ⟨m', g1, g2⟩ := IH (col + 1) _ (h.char c col hc)
        refine ⟨m', ?_, g2⟩
        show textM 1 (c :: escG (k + 1) s) col 0 m = _
        rw [textM_char 1 c _ col m (by unfold isB; simp; exact ⟨hb, h9c⟩) h1 h2 h3 (.inl h4)]
        exact g1
theorem lines_one {l : List UInt8} (hne : l ≠ []) (h10 : ∀ x ∈ l, x ≠ 10) (h13 : l.getLast? ≠ some 13) : lines l = [l] := by
  rw [lines_cons l hne, cutNL_end l h10]
  show chop l :: lines [] = [l]
  rw [lines_nil]
  unfold chop
  rw [if_neg h13]
theorem dropW_last {p : UInt8 → Bool} {c : UInt8} (h : p c = false) : ∀ l : List UInt8, ∃ x, (l ++ [c]).dropWhile p = x ++ [c]
  | [] => ⟨[], by simp [h]⟩
  | a :: l => by
    rw [List.cons_append, List.dropWhile_cons]
    split
    · exact dropW_last h l
    · exact ⟨a :: l, rfl⟩
theorem strip_head {c : UInt8} {r : List UInt8} (h : isB c = false) : stripL (c :: r) ≠ [] := by
  have hc : ([32, 9] : List UInt8).contains c = false := by unfold isB at h; simp at h ⊢; exact h
  unfold stripL Lib.trimS Lib.trimRightS
  rw [List.reverse_cons]
  obtain ⟨x, hx⟩ := dropW_last (p := fun b => ([32, 9] : List UInt8).contains b) hc r.reverse
  rw [hx, List.reverse_append]
  show Lib.trimLeftS (c :: x.reverse) _ ≠ []
  unfold Lib.trimLeftS
  rw [List.dropWhile_cons_of_neg (by rw [hc]; decide)]
  simp
theorem lexM_back {s : List UInt8} (hp : PlainL s) (hne : s ≠ []) (hlen : s.length ≤ 2000) (h1 : s.head? ≠ some 32) (h2 : s.getLast? ≠ some 32) (h3 : noDbl s = true) : lexM (escM s) = .ok [⟨6, [], s, 1, 1⟩] := by
  have hb := plain_bytes hp
  have hl := escG_len s 0
  have hm := escG_mem s 0
  have hen : escM s ≠ [] := by
    intro e
    have : (escM s).length = 0 := by rw [e]; rfl
    have h0 : 0 < s.length := List.length_pos_iff.2 hne
    unfold escM at this
    omega
  have hbe : ∀ b ∈ escM s, 32 ≤ b.toNat := fun b hb' => by
    rcases hm b hb' with rfl | h
    · decide
    · exact hb b h
  have hlines : lines (escM s) = [escM s] := lines_one hen (fun x hx e => by have := hbe x hx; rw [e] at this; exact absurd this (by decide)) (fun e => by have := hbe 13 (List.mem_of_getLast? e); exact absurd this (by decide))
  obtain ⟨c, r, hcr⟩ : ∃ c r, s = c :: r := by cases s with | nil => exact absurd rfl hne | cons c r => exact ⟨c, r, rfl⟩
  have hc32 : c ≠ 32 := fun e => h1 (by rw [hcr, e]; rfl)
  have hc9 : c ≠ 9 := fun e => by have := hb c (by rw [hcr]; exact List.mem_cons_self); rw [e] at this; exact absurd this (by decide)
  have hhead : ∃ d t, escM s = d :: t ∧ isB d = false ∧ d ≠ 35 ∧ d ≠ 46 := by
    rw [hcr]
    show ∃ d t, escB (0 == 0) c ++ escG 1 r = d :: t ∧ _
    rcases escB_cases (0 == 0) c with ⟨e, _⟩ | ⟨e, _, _, _, _, h5⟩
    · exact ⟨92, c :: escG 1 r, by rw [e]; rfl, rfl, by decide, by decide⟩
    · exact ⟨c, escG 1 r, by rw [e]; rfl, by unfold isB; simp; exact ⟨hc32, hc9⟩, (h5 rfl).2, (h5 rfl).1⟩
  obtain ⟨d, t, hd, hd1, hd2, hd3⟩ := hhead
  obtain ⟨m', g1, g2⟩ := textM_esc1 1 s [] 0 1 Mk.zero ⟨rfl, rfl, fun _ => ⟨rfl, rfl, rfl⟩, fun e => absurd rfl e, rfl⟩ (fun _ => rfl) (fun b hb' e => by have := hb b hb'; rw [e] at this; exact absurd this (by decide)) h3 (fun _ => h1)
  rw [List.nil_append] at g2
  obtain ⟨k1, k2, k3⟩ := g2.s hne
  have hgap : m'.gap = none := by
    cases hg : m'.gap with
    | none => rfl
    | some x => have := g2.full; rw [hg] at this; rw [← this] at h2; simp at h2
  have hrun : m'.run = s := by have := g2.full; rw [hgap] at this; simpa using this
  unfold lexM
  rw [if_neg (by unfold escM; omega), hlines]
  have hline : lineM 1 (escM s) Mk.zero = .ok (m'.blank (1, (escM s).length + 1)) := by
    unfold lineM
    rw [if_neg (by unfold escM; omega), esc_badAt hp]
    dsimp only
    rw [if_neg (by rw [hd]; exact strip_head hd1), if_neg (by rw [hd]; simpa using hd2), if_neg (by rw [hd]; simpa using hd3)]
    have : textM 1 (escM s) 1 0 Mk.zero = .ok m' := g1
    rw [this]
    rfl
  have hbl : m'.blank (1, (escM s).length + 1) = { m' with gap := some (1, (escM s).length + 1) } := by unfold Mk.blank; rw [k3, hgap]; rfl
  unfold linesM
  rw [hline, hbl]
  show Except.map _ (Mk.endPara _) = _
  unfold Mk.endPara
  have ho : ({ m' with gap := some (1, (escM s).length + 1) } : Mk).opn = [] := g2.opn
  rw [ho]
  show Except.ok _ = _
  unfold Mk.endRun
  rw [if_neg (show ¬ ({ m' with gap := some (1, (escM s).length + 1) } : Mk).run = [] from k1)]
  show Except.ok (m'.out ++ [⟨6, [], m'.run, m'.beg.1, m'.beg.2⟩]) = _
  rw [g2.out, hrun, k2]
  rfl
end Go.Proofs.YtmceiehnfmgioaaGreatDoor
