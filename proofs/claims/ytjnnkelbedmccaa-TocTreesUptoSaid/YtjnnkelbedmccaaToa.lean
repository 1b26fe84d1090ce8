/- Layer 10, in plain words: contents as a list of pairs, whether they may be, parents, spans, ways, what is shown. Nothing of the program is in it. -/
import Derived.ProofKit
namespace Go.Proofs.Ytjnnkelbedmccaa
set_option linter.unusedVariables false

structure Ent where
  tp : Int
  lv : Int
def lvN (l : List Ent) (k : Nat) : Int := match l[k]? with | some e => e.lv | none => 0
def tpN (l : List Ent) (k : Nat) : Int := match l[k]? with | some e => e.tp | none => 0
theorem lvN_at {l : List Ent} {k : Nat} (h : k < l.length) : lvN l k = l[k].lv := by unfold lvN; rw [List.getElem?_eq_getElem h]
theorem tpN_at {l : List Ent} {k : Nat} (h : k < l.length) : tpN l k = l[k].tp := by unfold tpN; rw [List.getElem?_eq_getElem h]
/-- The level ahead of the k-th. -/
def ahd (l : List Ent) : Nat → Int
  | 0 => 0
  | k + 1 => lvN l k
def mayB (a v : Int) : Bool := decide (1 ≤ v ∧ v ≤ 8 ∧ v ≤ a + 1)
def tops (l : List Ent) : List Int := l.map Ent.tp
theorem tops_len (l : List Ent) : (tops l).length = l.length := by simp [tops]
theorem tops_at {l : List Ent} {k : Nat} (h : k < l.length) : (tops l)[k]'(by rw [tops_len]; exact h) = tpN l k := by simp [tops, tpN_at h]
theorem mem_take {l : List Ent} {k : Nat} {x : Int} : x ∈ tops (l.take k) ↔ ∃ j, j < k ∧ j < l.length ∧ tpN l j = x := by
  unfold tops
  rw [List.mem_map]
  constructor
  · rintro ⟨e, he, rfl⟩
    obtain ⟨j, hj, e⟩ := List.mem_iff_getElem.1 he
    rw [List.length_take] at hj
    refine ⟨j, by omega, by omega, ?_⟩
    rw [tpN_at (by omega), ← e, List.getElem_take]
  · rintro ⟨j, h1, h2, rfl⟩
    exact ⟨l[j], List.mem_iff_getElem.2 ⟨j, by rw [List.length_take]; omega, by rw [List.getElem_take]⟩, (tpN_at h2).symm⟩
theorem tops_snoc {l : List Ent} {k : Nat} (h : k < l.length) : tops (l.take (k + 1)) = tops (l.take k) ++ [tpN l k] := by
  unfold tops; rw [List.take_succ_eq_append_getElem h, tpN_at h, List.map_append, List.map_cons, List.map_nil]
/-- What is wrong with the k-th entry, 0: nothing. -/
def badAt (N : Int) (l : List Ent) (k : Nat) : Int :=
  if tpN l k < 0 ∨ N ≤ tpN l k then 1 else if mayB (ahd l k) (lvN l k) = false then 100 else if tpN l k ∈ tops (l.take k) then 101 else 0
def chk (N : Int) (l : List Ent) : Int × Int :=
  if 1000 < l.length then (0, 2) else match (List.range l.length).find? (fun j => badAt N l j != 0) with | some j => ((j : Nat), badAt N l j) | none => (0, 0)
theorem chk_long {N : Int} {l : List Ent} (h : 1000 < l.length) : chk N l = (0, 2) := by unfold chk; rw [if_pos h]
theorem find_first {p : Nat → Bool} {n i : Nat} (hi : i < n) (h : ∀ j, j < i → p j = false) (hp : p i = true) : (List.range n).find? p = some i := by
  rw [List.find?_eq_some_iff_append]
  refine ⟨hp, List.range i, List.range' (i + 1) (n - (i + 1)), ?_, fun a ha => by simp [h a (List.mem_range.1 ha)]⟩
  have h1 := List.range'_append_1 (s := 0) (m := i) (n := n - i)
  rw [List.range_eq_range', List.range_eq_range', ← List.range'_succ, show n - (i + 1) + 1 = n - i by omega]
  rw [Nat.zero_add, show i + (n - i) = n by omega] at h1
  exact h1.symm
theorem chk_first {N : Int} {l : List Ent} {i : Nat} (hl : l.length ≤ 1000) (hi : i < l.length) (h : ∀ j, j < i → badAt N l j = 0) (hb : badAt N l i ≠ 0) : chk N l = (((i : Nat) : Int), badAt N l i) := by
  unfold chk
  rw [if_neg (by omega), find_first hi (fun j hj => by simp [h j hj]) (by simpa using hb)]
theorem chk_none {N : Int} {l : List Ent} (hl : l.length ≤ 1000) (h : ∀ j, j < l.length → badAt N l j = 0) : chk N l = (0, 0) := by
  unfold chk
  rw [if_neg (by omega), List.find?_eq_none.2 (fun j hj => by simp [h j (List.mem_range.1 hj)])]
theorem chk_cases (N : Int) (l : List Ent) : (1000 < l.length ∧ chk N l = (0, 2)) ∨ (l.length ≤ 1000 ∧ ∃ i, i < l.length ∧ (∀ j, j < i → badAt N l j = 0) ∧ badAt N l i ≠ 0 ∧ chk N l = (((i : Nat) : Int), badAt N l i)) ∨ (l.length ≤ 1000 ∧ (∀ j, j < l.length → badAt N l j = 0) ∧ chk N l = (0, 0)) := by
  by_cases hl : 1000 < l.length
  · exact .inl ⟨hl, chk_long hl⟩
  by_cases h : ∀ j, j < l.length → badAt N l j = 0
  · exact .inr (.inr ⟨by omega, h, chk_none (by omega) h⟩)
  refine .inr (.inl ⟨by omega, ?_⟩)
  have hex : ∃ j, j < l.length ∧ badAt N l j ≠ 0 := by
    by_cases h2 : ∃ j, j < l.length ∧ badAt N l j ≠ 0
    · exact h2
    · exact absurd (fun j hj => by by_cases h3 : badAt N l j = 0; exact h3; exact absurd ⟨j, hj, h3⟩ h2) h
  have least : ∀ n, ∀ j, j ≤ n → j < l.length → badAt N l j ≠ 0 → ∃ i, i < l.length ∧ (∀ j, j < i → badAt N l j = 0) ∧ badAt N l i ≠ 0 := by
    intro n
    induction n with
    | zero => intro j hj hl hb; obtain rfl : j = 0 := by omega
              exact ⟨0, hl, fun j hj => by omega, hb⟩
    | succ n ih =>
      intro j hj hl hb
      by_cases h4 : ∃ m, m < j ∧ badAt N l m ≠ 0
      · obtain ⟨m, hm, hbm⟩ := h4
        exact ih m (by omega) (by omega) hbm
      · exact ⟨j, hl, fun m hm => by by_cases h3 : badAt N l m = 0; exact h3; exact absurd ⟨m, hm, h3⟩ h4, hb⟩
  obtain ⟨j, hj, hb⟩ := hex
  obtain ⟨i, hi, h1, h2⟩ := least j j (Nat.le_refl _) hj hb
  exact ⟨i, hi, h1, h2, chk_first (by omega) hi h1 h2⟩
theorem badAt_vals (N : Int) (l : List Ent) (k : Nat) : badAt N l k = 0 ∨ badAt N l k = 1 ∨ badAt N l k = 100 ∨ badAt N l k = 101 := by
  unfold badAt
  split
  · simp
  · split
    · simp
    · split <;> simp
/-- Contents that may be. -/
structure Gd (l : List Ent) : Prop where
  len : l.length ≤ 1000
  tp : ∀ k, k < l.length → 0 ≤ tpN l k ∧ tpN l k < 1000
  lv : ∀ k, k < l.length → 1 ≤ lvN l k ∧ lvN l k ≤ 8 ∧ lvN l k ≤ ahd l k + 1
  one : ∀ j k, j < l.length → k < l.length → tpN l j = tpN l k → j = k
theorem bad_zero {N : Int} {l : List Ent} {k : Nat} (h : badAt N l k = 0) : 0 ≤ tpN l k ∧ tpN l k < N ∧ mayB (ahd l k) (lvN l k) = true ∧ tpN l k ∉ tops (l.take k) := by
  unfold badAt at h
  by_cases h1 : tpN l k < 0 ∨ N ≤ tpN l k
  · rw [if_pos h1] at h; cases h
  rw [if_neg h1] at h
  by_cases h2 : mayB (ahd l k) (lvN l k) = false
  · rw [if_pos h2] at h; cases h
  rw [if_neg h2] at h
  by_cases h3 : tpN l k ∈ tops (l.take k)
  · rw [if_pos h3] at h; cases h
  exact ⟨by omega, by omega, by simpa using h2, h3⟩
theorem bad_ok {N : Int} {l : List Ent} {k : Nat} (h1 : 0 ≤ tpN l k) (h2 : tpN l k < N) (h3 : mayB (ahd l k) (lvN l k) = true) (h4 : tpN l k ∉ tops (l.take k)) : badAt N l k = 0 := by
  unfold badAt
  rw [if_neg (by omega), if_neg (by simp [h3]), if_neg h4]
theorem bad_range {N : Int} {l : List Ent} {k : Nat} (h1 : tpN l k < 0 ∨ N ≤ tpN l k) : badAt N l k = 1 := by unfold badAt; rw [if_pos h1]
theorem bad_level {N : Int} {l : List Ent} {k : Nat} (h1 : 0 ≤ tpN l k) (h2 : tpN l k < N) (h3 : mayB (ahd l k) (lvN l k) = false) : badAt N l k = 100 := by
  unfold badAt
  rw [if_neg (by omega), if_pos h3]
theorem bad_twice {N : Int} {l : List Ent} {k : Nat} (h1 : 0 ≤ tpN l k) (h2 : tpN l k < N) (h3 : mayB (ahd l k) (lvN l k) = true) (h4 : tpN l k ∈ tops (l.take k)) : badAt N l k = 101 := by
  unfold badAt
  rw [if_neg (by omega), if_neg (by simp [h3]), if_pos h4]
def gdE (l : List Ent) : Int := (chk 1000 l).2
theorem gd_of {l : List Ent} (h : gdE l = 0) : Gd l := by
  unfold gdE at h
  rcases chk_cases 1000 l with ⟨_, e⟩ | ⟨_, i, _, _, hb, e⟩ | ⟨hl, hb, _⟩
  · rw [e] at h; cases h
  · rw [e] at h; exact absurd h hb
  refine ⟨hl, fun k hk => ?_, fun k hk => ?_, fun j k hj hk e => ?_⟩
  · have := bad_zero (hb k hk); exact ⟨this.1, this.2.1⟩
  · have := (bad_zero (hb k hk)).2.2.1
    unfold mayB at this
    simpa using this
  · rcases Nat.lt_trichotomy j k with h1 | h1 | h1
    · exact absurd (mem_take.2 ⟨j, h1, hj, e⟩) (bad_zero (hb k hk)).2.2.2
    · exact h1
    · exact absurd (mem_take.2 ⟨k, h1, hk, e.symm⟩) (bad_zero (hb j hj)).2.2.2
theorem gdE_long {l : List Ent} (h : 1000 < l.length) : gdE l ≠ 0 := by unfold gdE; rw [chk_long h]; simp
/-- The number of a topic's entry, -1: none. -/
def atF (l : List Ent) (x : Int) : Int := match (List.range l.length).find? (fun j => tpN l j == x) with | some j => (j : Nat) | none => -1
theorem atF_first {l : List Ent} {x : Int} {i : Nat} (hi : i < l.length) (h : ∀ j, j < i → tpN l j ≠ x) (hx : tpN l i = x) : atF l x = (i : Nat) := by
  unfold atF
  rw [find_first hi (fun j hj => by simp [h j hj]) (by simp [hx])]
theorem atF_none {l : List Ent} {x : Int} (h : ∀ j, j < l.length → tpN l j ≠ x) : atF l x = -1 := by
  unfold atF
  rw [List.find?_eq_none.2 (fun j hj => by simp [h j (List.mem_range.1 hj)])]
theorem atF_cases (l : List Ent) (x : Int) : (∃ i, i < l.length ∧ tpN l i = x ∧ atF l x = (i : Nat)) ∨ ((∀ j, j < l.length → tpN l j ≠ x) ∧ atF l x = -1) := by
  unfold atF
  cases e : (List.range l.length).find? (fun j => tpN l j == x) with
  | none =>
    refine .inr ⟨fun j hj => ?_, rfl⟩
    have := List.find?_eq_none.1 e j (List.mem_range.2 hj)
    simpa using this
  | some j => exact .inl ⟨j, List.mem_range.1 (List.mem_of_find?_eq_some e), by simpa using List.find?_some e, rfl⟩
theorem atF_self {l : List Ent} (g : Gd l) {k : Nat} (hk : k < l.length) : atF l (tpN l k) = (k : Nat) := by
  rcases atF_cases l (tpN l k) with ⟨i, hi, e, h⟩ | ⟨h, _⟩
  · rw [h, g.one i k hi hk e]
  · exact absurd rfl (h k hk)
/-- The last place ahead of n with a level, -1: none. -/
def abvF (l : List Ent) (v : Int) : Nat → Int
  | 0 => -1
  | k + 1 => if lvN l k = v then (k : Nat) else abvF l v k
theorem abvF_lt (l : List Ent) (v : Int) : ∀ n, abvF l v n < n ∧ -1 ≤ abvF l v n
  | 0 => by simp [abvF]
  | n + 1 => by
    have := abvF_lt l v n
    unfold abvF
    split <;> omega
def abv (l : List Ent) (k : Nat) : Int := abvF l (lvN l k - 1) k
theorem abv_lt (l : List Ent) (k : Nat) : abv l k < k ∧ -1 ≤ abv l k := abvF_lt l _ k
/-- The level of an entry, and of the root. -/
def lvI (l : List Ent) (i : Int) : Int := if i < 0 then 0 else lvN l i.toNat
theorem lvI_nat (l : List Ent) (k : Nat) : lvI l (k : Nat) = lvN l k := by unfold lvI; rw [if_neg (by omega)]; rfl
theorem lvI_root (l : List Ent) : lvI l (-1) = 0 := rfl
theorem abvF_spec {l : List Ent} (g : Gd l) {k : Nat} (hk : k < l.length) : ∀ n, n ≤ k → (∀ j, n ≤ j → j < k → lvN l k ≤ lvN l j) →
    lvI l (abvF l (lvN l k - 1) n) = lvN l k - 1 ∧ ∀ j : Nat, abvF l (lvN l k - 1) n < j → j < k → lvN l k ≤ lvN l j
  | 0, _, h => by
    have h0 := g.lv k hk
    have h00 := g.lv 0 (by omega)
    simp only [ahd] at h00
    refine ⟨?_, fun j _ hj => h j (Nat.zero_le _) hj⟩
    show (0 : Int) = _
    rcases Nat.eq_zero_or_pos k with rfl | hp
    · omega
    · have := h 0 (Nat.le_refl _) hp; omega
  | n + 1, hn, h => by
    unfold abvF
    by_cases e : lvN l n = lvN l k - 1
    · rw [if_pos e]
      exact ⟨by rw [lvI_nat]; exact e, fun j hj hk' => h j (by omega) hk'⟩
    · rw [if_neg e]
      refine abvF_spec g hk n (by omega) fun j hj hk' => ?_
      rcases Nat.eq_or_lt_of_le hj with rfl | h2
      · have h3 := (g.lv (n + 1) (by omega)).2.2
        simp only [ahd] at h3
        rcases Nat.eq_or_lt_of_le hn with h4 | h4
        · rw [h4] at h3; omega
        · have := h (n + 1) (Nat.le_refl _) h4; omega
      · exact h j (by omega) hk'
theorem abv_spec {l : List Ent} (g : Gd l) {k : Nat} (hk : k < l.length) : lvI l (abv l k) = lvN l k - 1 ∧ ∀ j : Nat, abv l k < j → j < k → lvN l k ≤ lvN l j :=
  abvF_spec g hk k (Nat.le_refl _) fun j h1 h2 => by omega
theorem abv_one {l : List Ent} (g : Gd l) {k : Nat} (hk : k < l.length) {p : Int} (h0 : -1 ≤ p) (h1 : p < k) (h2 : lvI l p = lvN l k - 1) (h3 : ∀ j : Nat, p < j → j < k → lvN l k ≤ lvN l j) : abv l k = p := by
  have h4 := abv_spec g hk
  have h5 := abv_lt l k
  obtain ⟨q, hq⟩ : ∃ q, abv l k = q := ⟨_, rfl⟩
  rw [hq] at h4 h5 ⊢
  rcases lt_trichotomy p q with h | h | h
  · have h6 := h3 q.toNat (by omega) (by omega)
    have h7 := h4.1
    unfold lvI at h7
    rw [if_neg (by omega)] at h7
    omega
  · exact h.symm
  · have h6 := h4.2 p.toNat (by omega) (by omega)
    have h7 := h2
    unfold lvI at h7
    rw [if_neg (by omega)] at h7
    omega
where
  lt_trichotomy (a b : Int) : a < b ∨ a = b ∨ b < a := by omega
theorem abv_root {l : List Ent} (g : Gd l) {k : Nat} (hk : k < l.length) : abv l k = -1 ↔ lvN l k = 1 := by
  have h := abv_spec g hk
  have h2 := abv_lt l k
  constructor
  · intro e
    rw [e, lvI_root] at h
    omega
  · intro e
    refine abv_one g hk (Int.le_refl _) (by omega) (by rw [lvI_root]; omega) fun j _ hj => ?_
    have := (g.lv j (by omega)).1
    omega
/-- How many stand below, from s on: those with a level above v. -/
def blw (l : List Ent) (v : Int) (s : Nat) : Nat := ((l.drop s).takeWhile (fun e => decide (v < e.lv))).length
theorem blw_in (l : List Ent) (v : Int) (s : Nat) (hs : s ≤ l.length) : s + blw l v s ≤ l.length := by
  have h := List.IsPrefix.length_le (List.takeWhile_prefix (fun e : Ent => decide (v < e.lv)) (l := l.drop s))
  rw [List.length_drop] at h
  unfold blw
  omega
theorem takeW_at {p : Ent → Bool} : ∀ {m : List Ent} {j : Nat}, j < (m.takeWhile p).length → ∃ h : j < m.length, p m[j] = true
  | [], j, h => by simp at h
  | e :: m, j, h => by
    unfold List.takeWhile at h
    by_cases hp : p e = true
    · simp only [hp] at h
      rcases j with _ | j
      · exact ⟨by simp, hp⟩
      · obtain ⟨h1, h2⟩ := takeW_at (m := m) (j := j) (by simpa using h)
        exact ⟨by simp; omega, by simpa using h2⟩
    · simp [hp] at h
theorem takeW_end {p : Ent → Bool} : ∀ {m : List Ent} (h : (m.takeWhile p).length < m.length), p (m[(m.takeWhile p).length]'h) = false
  | [], h => by simp at h
  | e :: m, h => by
    by_cases hp : p e = true
    · have e1 : ((e :: m).takeWhile p).length = (m.takeWhile p).length + 1 := by simp [List.takeWhile, hp]
      have h2 : (m.takeWhile p).length < m.length := by simp only [e1, List.length_cons] at h; omega
      have := takeW_end h2
      simp only [e1, List.getElem_cons_succ]
      exact this
    · have e1 : ((e :: m).takeWhile p).length = 0 := by simp [List.takeWhile, hp]
      simp only [e1, List.getElem_cons_zero]
      simpa using hp
theorem blw_above {l : List Ent} {v : Int} {s j : Nat} (h : j < blw l v s) : v < lvN l (s + j) := by
  obtain ⟨h1, h2⟩ := takeW_at h
  rw [List.length_drop] at h1
  rw [lvN_at (by omega)]
  rw [List.getElem_drop] at h2
  simpa using h2
theorem blw_end {l : List Ent} {v : Int} {s : Nat} (h : s + blw l v s < l.length) : lvN l (s + blw l v s) ≤ v := by
  have h2 : ((l.drop s).takeWhile (fun e => decide (v < e.lv))).length < (l.drop s).length := by rw [List.length_drop]; unfold blw at h; omega
  have := takeW_end h2
  rw [List.getElem_drop] at this
  rw [lvN_at h]
  simpa [blw] using this
theorem blw_eq {l : List Ent} {v : Int} {s k : Nat} (hs : s + k ≤ l.length) (h : ∀ j, j < k → v < lvN l (s + j)) (he : s + k < l.length → lvN l (s + k) ≤ v) : blw l v s = k := by
  rcases Nat.lt_trichotomy (blw l v s) k with h1 | h1 | h1
  · have h2 := h _ h1
    have h3 := blw_end (l := l) (v := v) (s := s) (by omega)
    omega
  · exact h1
  · have h2 := blw_above h1
    have h3 := blw_in l v s (by omega)
    have := he (by omega)
    omega
/-- Does k stand below i (i an entry, or the root)? -/
def under (l : List Ent) (i : Int) (k : Nat) : Prop := i < k ∧ ∀ j : Nat, i < j → j ≤ k → lvI l i < lvN l j
theorem under_blw {l : List Ent} {i : Int} (h0 : -1 ≤ i) (hi : i < l.length) {k : Nat} (hk : k < l.length) : under l i k ↔ i < k ∧ k < (i + 1).toNat + blw l (lvI l i) (i + 1).toNat := by
  have hs : (i + 1).toNat ≤ l.length := by omega
  constructor
  · rintro ⟨h1, h2⟩
    refine ⟨h1, ?_⟩
    by_cases h3 : k < (i + 1).toNat + blw l (lvI l i) (i + 1).toNat
    · exact h3
    · have h4 := blw_end (l := l) (v := lvI l i) (s := (i + 1).toNat) (by omega)
      have := h2 ((i + 1).toNat + blw l (lvI l i) (i + 1).toNat) (by omega) (by omega)
      omega
  · rintro ⟨h1, h2⟩
    refine ⟨h1, fun j hj hjk => ?_⟩
    have := blw_above (l := l) (v := lvI l i) (s := (i + 1).toNat) (j := j - (i + 1).toNat) (by omega)
    rwa [show (i + 1).toNat + (j - (i + 1).toNat) = j by omega] at this
/-- A kid stands below, one level deeper. -/
theorem kid_iff {l : List Ent} (g : Gd l) {i : Int} (h0 : -1 ≤ i) (hi : i < l.length) {k : Nat} (hk : k < l.length) : abv l k = i ↔ under l i k ∧ lvN l k = lvI l i + 1 := by
  constructor
  · rintro rfl
    have h := abv_spec g hk
    have h2 := abv_lt l k
    refine ⟨⟨by omega, fun j hj hjk => ?_⟩, by omega⟩
    rcases Nat.eq_or_lt_of_le hjk with rfl | h3
    · omega
    · have := h.2 j hj h3; omega
  · rintro ⟨⟨h1, h2⟩, h3⟩
    refine abv_one g hk h0 h1 (by omega) fun j hj hjk => ?_
    have := h2 j hj (by omega)
    omega
theorem under_step {l : List Ent} (g : Gd l) {i : Nat} {k : Nat} (hk : k < l.length) (hik : i < k) : under l i k ↔ abv l k = i ∨ (i < abv l k ∧ under l i (abv l k).toNat) := by
  have h := abv_spec g hk
  have h2 := abv_lt l k
  constructor
  · rintro ⟨h3, h4⟩
    by_cases h5 : abv l k = i
    · exact .inl h5
    rcases (show abv l k < i ∨ i < abv l k by omega) with h6 | h6
    · have h7 := h.2 i h6 hik
      have h8 := h4 k h3 (Nat.le_refl _)
      rw [lvI_nat] at h8
      omega
    · exact .inr ⟨h6, by omega, fun j hj hjk => h4 j hj (by omega)⟩
  · rintro (h3 | ⟨h3, h4, h5⟩)
    · exact ((kid_iff g (by omega) (by omega) hk).1 h3).1
    · refine ⟨by omega, fun j hj hjk => ?_⟩
      have h6 := h5 (abv l k).toNat (by omega) (Nat.le_refl _)
      have h7 : lvI l (abv l k) = lvN l (abv l k).toNat := by unfold lvI; rw [if_neg (by omega)]
      rcases (show (j : Int) ≤ abv l k ∨ abv l k < j by omega) with h8 | h8
      · exact h5 j hj (by omega)
      · rcases Nat.eq_or_lt_of_le hjk with rfl | h9
        · omega
        · have := h.2 j h8 h9; omega
/-- The numbers from the entry of level 1 down to an entry. -/
def pthF (l : List Ent) : Nat → Int → List Nat
  | 0, _ => []
  | f + 1, i => if i < 0 then [] else pthF l f (abv l i.toNat) ++ [i.toNat]
theorem pthF_more (l : List Ent) : ∀ (f f' : Nat) (i : Int), i < f → i < f' → pthF l f i = pthF l f' i
  | 0, 0, i, _, _ => rfl
  | 0, f' + 1, i, h, _ => by unfold pthF; rw [if_pos (by omega)]
  | f + 1, 0, i, _, h => by unfold pthF; rw [if_pos (by omega)]
  | f + 1, f' + 1, i, h, h' => by
    unfold pthF
    by_cases e : i < 0
    · rw [if_pos e, if_pos e]
    · have := abv_lt l i.toNat
      rw [if_neg e, if_neg e, pthF_more l f f' (abv l i.toNat) (by omega) (by omega)]
def pth (l : List Ent) (i : Int) : List Nat := pthF l (i + 1).toNat i
theorem pth_root (l : List Ent) : pth l (-1) = [] := rfl
theorem pth_step (l : List Ent) (k : Nat) : pth l (k : Nat) = pth l (abv l k) ++ [k] := by
  unfold pth
  have h := abv_lt l k
  rw [show ((k : Int) + 1).toNat = k + 1 by omega]
  conv => lhs; unfold pthF
  rw [if_neg (by omega), Int.toNat_natCast]
  congr 1
  exact pthF_more l _ _ _ (by omega) (by omega)
theorem pth_len {l : List Ent} (g : Gd l) : ∀ (n : Nat) (i : Int), i < n → -1 ≤ i → i < l.length → ((pth l i).length : Int) = lvI l i
  | 0, i, h, h0, _ => by obtain rfl : i = -1 := by omega
                         rfl
  | n + 1, i, h, h0, hi => by
    by_cases e : i = -1
    · subst e; rfl
    obtain ⟨k, rfl⟩ : ∃ k : Nat, i = k := ⟨i.toNat, by omega⟩
    have h1 := abv_lt l k
    have h2 := pth_len g n (abv l k) (by omega) (by omega) (by omega)
    have h3 := (abv_spec g (k := k) (by omega)).1
    rw [pth_step, List.length_append, lvI_nat]
    simp only [List.length_cons, List.length_nil]
    omega
theorem pth_mem {l : List Ent} : ∀ (n : Nat) (i : Int), i < n → -1 ≤ i → ∀ q ∈ pth l i, (q : Int) ≤ i
  | 0, i, h, h0, q, hq => by obtain rfl : i = -1 := by omega
                             rw [pth_root] at hq; cases hq
  | n + 1, i, h, h0, q, hq => by
    by_cases e : i = -1
    · subst e; rw [pth_root] at hq; cases hq
    obtain ⟨k, rfl⟩ : ∃ k : Nat, i = k := ⟨i.toNat, by omega⟩
    have h1 := abv_lt l k
    rw [pth_step, List.mem_append] at hq
    rcases hq with hq | hq
    · have := pth_mem n (abv l k) (by omega) (by omega) q hq
      omega
    · simp at hq; omega
/-- What is to be seen. -/
def seeF (l : List Ent) (op : Int → Bool) : Nat → Int → Bool
  | 0, _ => true
  | f + 1, i => if i < 0 then true else if abv l i.toNat < 0 then true else seeF l op f (abv l i.toNat) && op (tpN l (abv l i.toNat).toNat)
theorem seeF_more (l : List Ent) (op : Int → Bool) : ∀ (f f' : Nat) (i : Int), i < f → i < f' → seeF l op f i = seeF l op f' i
  | 0, 0, i, _, _ => rfl
  | 0, f' + 1, i, h, _ => by unfold seeF; rw [if_pos (by omega)]
  | f + 1, 0, i, _, h => by unfold seeF; rw [if_pos (by omega)]
  | f + 1, f' + 1, i, h, h' => by
    unfold seeF
    have := abv_lt l i.toNat
    split
    · rfl
    · split
      · rfl
      · rw [seeF_more l op f f' (abv l i.toNat) (by omega) (by omega)]
def see (l : List Ent) (op : Int → Bool) (k : Nat) : Bool := seeF l op (k + 1) k
theorem see_step (l : List Ent) (op : Int → Bool) (k : Nat) : see l op k = if abv l k < 0 then true else see l op (abv l k).toNat && op (tpN l (abv l k).toNat) := by
  unfold see
  have h := abv_lt l k
  conv => lhs; unfold seeF
  rw [if_neg (by omega), Int.toNat_natCast]
  split
  · rfl
  · rw [show (((abv l k).toNat : Nat) : Int) = abv l k by omega]
    rw [seeF_more l op k ((abv l k).toNat + 1) (abv l k) (by omega) (by omega)]
/-- The depth that the next one may have to be seen: d says what it is for each level that an entry behind may have. -/
def Deep (l : List Ent) (op : Int → Bool) (n : Nat) (d : Int) : Prop :=
  1 ≤ d ∧ d ≤ 9 ∧ ∀ v : Int, 1 ≤ v → v ≤ ahd l n + 1 → ((if abvF l (v - 1) n < 0 then true else see l op (abvF l (v - 1) n).toNat && op (tpN l (abvF l (v - 1) n).toNat)) = decide (v ≤ d))
theorem deep_start (l : List Ent) (op : Int → Bool) : Deep l op 0 1 := ⟨by omega, by omega, fun v h1 h2 => by
  simp only [ahd] at h2
  obtain rfl : v = 1 := by omega
  rfl⟩
theorem deep_see {l : List Ent} {op : Int → Bool} (g : Gd l) {n : Nat} {d : Int} (h : Deep l op n d) (hn : n < l.length) : see l op n = decide (lvN l n ≤ d) := by
  have h1 := g.lv n hn
  rw [see_step]
  exact h.2.2 (lvN l n) h1.1 h1.2.2
theorem deep_next {l : List Ent} {op : Int → Bool} (g : Gd l) {n : Nat} {d : Int} (h : Deep l op n d) (hn : n < l.length) :
    Deep l op (n + 1) (if lvN l n ≤ d then (if op (tpN l n) then lvN l n + 1 else lvN l n) else d) := by
  have hs := deep_see g h hn
  have h1 := g.lv n hn
  refine ⟨?_, ?_, fun v hv1 hv2 => ?_⟩
  · have := h.1
    by_cases h2 : lvN l n ≤ d
    · rw [if_pos h2]; split <;> omega
    · rw [if_neg h2]; exact this
  · have := h.2.1
    by_cases h2 : lvN l n ≤ d
    · rw [if_pos h2]; split <;> omega
    · rw [if_neg h2]; exact this
  simp only [ahd] at hv2
  by_cases e : v = lvN l n + 1
  · subst e
    have ea : abvF l (lvN l n + 1 - 1) (n + 1) = (n : Nat) := by unfold abvF; rw [if_pos (by omega)]
    rw [ea, if_neg (by omega), Int.toNat_natCast, hs]
    by_cases h2 : lvN l n ≤ d
    · rw [if_pos h2]
      cases op (tpN l n)
      · simp; omega
      · simp; omega
    · rw [if_neg h2, decide_eq_false h2, decide_eq_false (show ¬ lvN l n + 1 ≤ d by omega)]
      rfl
  · have ea : abvF l (v - 1) (n + 1) = abvF l (v - 1) n := by
      conv => lhs; unfold abvF
      rw [if_neg (by omega)]
    rw [ea, h.2.2 v hv1 (by omega)]
    by_cases h2 : lvN l n ≤ d
    · rw [if_pos h2]
      rw [decide_eq_true (show v ≤ d by omega)]
      symm
      split
      · exact decide_eq_true (by omega)
      · exact decide_eq_true (by omega)
    · rw [if_neg h2]
def shownM (l : List Ent) (op : Int → Bool) : List Nat := (List.range l.length).filter fun k => see l op k
def kidsM (l : List Ent) (i : Int) : List Nat := (List.range l.length).filter fun k => decide (abv l k = i)
def endM (l : List Ent) (i : Nat) : Nat := i + 1 + blw l (lvN l i) (i + 1)
end Go.Proofs.Ytjnnkelbedmccaa
