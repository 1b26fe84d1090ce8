/- Plain: a walk over a graph, the nearest ahead; the way back is the first of the shortest. -/
namespace Go.Proofs.Ytjgcbobalmmjkaa.Bf
set_option linter.unusedVariables false

/-- A list is not behind another one of its length. -/
def le : List Nat → List Nat → Prop
  | [], _ => True
  | _ :: _, [] => False
  | a :: p, b :: q => a < b ∨ a = b ∧ le p q
theorem le_refl : ∀ p, le p p
  | [] => trivial
  | a :: p => .inr ⟨rfl, le_refl p⟩
theorem le_anti : ∀ {p q : List Nat}, p.length = q.length → le p q → le q p → p = q
  | [], [], _, _, _ => rfl
  | [], _ :: _, h, _, _ => by simp at h
  | _ :: _, [], h, _, _ => by simp at h
  | a :: p, b :: q, h, h1, h2 => by
    simp only [le] at h1 h2
    have : a = b := by omega
    subst this
    have h1' : le p q := by rcases h1 with h1 | h1; omega; exact h1.2
    have h2' : le q p := by rcases h2 with h2 | h2; omega; exact h2.2
    rw [le_anti (by simpa using h) h1' h2']
theorem le_trans : ∀ {p q r : List Nat}, le p q → le q r → le p r
  | [], _, _, _, _ => trivial
  | _ :: _, [], _, h, _ => h.elim
  | _ :: _, _ :: _, [], _, h => h.elim
  | a :: p, b :: q, c :: r, h1, h2 => by
    simp only [le] at *
    rcases h1 with h1 | ⟨rfl, h1⟩
    · rcases h2 with h2 | ⟨rfl, h2⟩
      · exact .inl (by omega)
      · exact .inl h1
    · rcases h2 with h2 | ⟨rfl, h2⟩
      · exact .inl h2
      · exact .inr ⟨rfl, le_trans h1 h2⟩
/-- With one more behind: what is ahead decides, or, where that is one, the last. -/
theorem le_snoc : ∀ {p q : List Nat} {x y : Nat}, p.length = q.length → le p q → (p = q → x ≤ y) → le (p ++ [x]) (q ++ [y])
  | [], [], x, y, _, _, h => by
    have := h rfl
    simp only [List.nil_append, le, and_true]
    omega
  | [], _ :: _, _, _, h, _, _ => by simp at h
  | _ :: _, [], _, _, h, _, _ => by simp at h
  | a :: p, b :: q, x, y, h, h1, h2 => by
    simp only [le, List.cons_append] at *
    rcases h1 with h1 | ⟨rfl, h1⟩
    · exact .inl h1
    · exact .inr ⟨rfl, le_snoc (by simpa using h) h1 (fun e => h2 (by rw [e]))⟩
/-- The other way round: of two lists with one more behind. -/
theorem snoc_le : ∀ {p q : List Nat} {x y : Nat}, p.length = q.length → le (p ++ [x]) (q ++ [y]) → le p q
  | [], [], _, _, _, _ => trivial
  | [], _ :: _, _, _, h, _ => by simp at h
  | _ :: _, [], _, _, h, _ => by simp at h
  | a :: p, b :: q, x, y, h, h1 => by
    simp only [le, List.cons_append] at *
    rcases h1 with h1 | ⟨rfl, h1⟩
    · exact .inl h1
    · exact .inr ⟨rfl, snoc_le (by simpa using h) h1⟩

/-- A way: a list of places each of which refers to the next. -/
def Path (g : Nat → Nat → Bool) : List Nat → Prop
  | [] => False
  | [_] => True
  | a :: b :: p => g a b = true ∧ Path g (b :: p)
/-- The way from one place to another. -/
def Way (g : Nat → Nat → Bool) (x y : Nat) (p : List Nat) : Prop := Path g p ∧ p.head? = some x ∧ p.getLast? = some y
theorem way_one (g : Nat → Nat → Bool) (x : Nat) : Way g x x [x] := ⟨trivial, rfl, rfl⟩
theorem path_snoc {g : Nat → Nat → Bool} : ∀ {p : List Nat} {y z : Nat}, Path g p → p.getLast? = some y → g y z = true → Path g (p ++ [z])
  | [], _, _, h, _, _ => h.elim
  | [a], y, z, _, hl, hg => by
    simp at hl
    subst hl
    exact ⟨hg, trivial⟩
  | a :: b :: p, y, z, h, hl, hg => by
    refine ⟨h.1, ?_⟩
    exact path_snoc (p := b :: p) h.2 (by rw [List.getLast?_cons_cons] at hl; exact hl) hg
theorem Way.snoc {g : Nat → Nat → Bool} {x y z : Nat} {p : List Nat} (h : Way g x y p) (hg : g y z = true) : Way g x z (p ++ [z]) := by
  refine ⟨path_snoc h.1 h.2.2 hg, ?_, by simp⟩
  cases p with
  | nil => exact h.1.elim
  | cons a p => simpa using h.2.1
/-- A way of more than one place is a shorter one and a last step. -/
theorem path_last {g : Nat → Nat → Bool} : ∀ {p : List Nat} {z : Nat}, p ≠ [] → Path g (p ++ [z]) → ∃ y, Path g p ∧ p.getLast? = some y ∧ g y z = true
  | [], _, h, _ => absurd rfl h
  | [a], z, _, h => ⟨a, trivial, rfl, h.1⟩
  | a :: b :: p, z, _, h => by
    obtain ⟨y, h1, h2, h3⟩ := path_last (p := b :: p) (by simp) h.2
    exact ⟨y, ⟨h.1, h1⟩, by rw [List.getLast?_cons_cons]; exact h2, h3⟩
theorem Way.split {g : Nat → Nat → Bool} {x z : Nat} {p : List Nat} (h : Way g x z p) (hl : 1 < p.length) : ∃ q y, p = q ++ [z] ∧ Way g x y q ∧ g y z = true := by
  have hne : p ≠ [] := by intro e; subst e; simp at hl
  obtain ⟨h1, h2, h3⟩ := h
  obtain ⟨q, hq⟩ : ∃ q, p = q ++ [z] := ⟨p.dropLast, by
    have h4 := List.dropLast_concat_getLast hne
    rw [List.getLast?_eq_some_getLast hne] at h3
    cases h3
    exact h4.symm⟩
  subst hq
  have hqn : q ≠ [] := by intro e; subst e; simp at hl
  obtain ⟨y, a, b, c⟩ := path_last hqn h1
  refine ⟨q, y, rfl, ⟨a, ?_, b⟩, c⟩
  cases q with
  | nil => exact absurd rfl hqn
  | cons a q => simpa using h2

/-- What a walk has seen: each place with the number of the one from which it was seen; the first one is its own. -/
structure Seen (g : Nat → Nat → Bool) (from_ : Nat) (S : List (Nat × Nat)) : Prop where
  head : S[0]? = some (from_, 0)
  back : ∀ j n q, 0 < j → S[j]? = some (n, q) → q < j ∧ ∃ m r, S[q]? = some (m, r) ∧ g m n = true
  nodup : (S.map (·.1)).Nodup
  order : ∀ i j n q m r, 0 < i → i < j → S[i]? = some (n, q) → S[j]? = some (m, r) → q < r ∨ q = r ∧ n < m
/-- All that the first so many refer to is seen, from them or sooner; so is a part of what the next one refers to. -/
structure Inv (g : Nat → Nat → Bool) (from_ : Nat) (S : List (Nat × Nat)) (c : Nat) (pre : Nat → Prop) : Prop extends Seen g from_ S where
  le : c ≤ S.length
  closed : ∀ i m r z, i < c → S[i]? = some (m, r) → g m z = true → ∃ j q, S[j]? = some (z, q) ∧ (j = 0 ∨ q ≤ i)
  part : ∀ m r z, S[c]? = some (m, r) → pre z → g m z = true ∧ ∃ j q, S[j]? = some (z, q) ∧ (j = 0 ∨ q ≤ c)
  upto : ∀ j n q, 0 < j → S[j]? = some (n, q) → q ≤ c

/-- The way back from a place of what was seen (with so much fuel), turned round. -/
def wayTo (S : List (Nat × Nat)) : Nat → Nat → List Nat
  | 0, j => [(S.getD j (0, 0)).1]
  | f + 1, j => if j = 0 then [(S.getD 0 (0, 0)).1] else wayTo S f (S.getD j (0, 0)).2 ++ [(S.getD j (0, 0)).1]
variable {g : Nat → Nat → Bool} {from_ : Nat} {S : List (Nat × Nat)} {c : Nat} {pre : Nat → Prop}
theorem getD_of {j : Nat} {x : Nat × Nat} (h : S[j]? = some x) : S.getD j (0, 0) = x := by simp [h]
theorem Seen.ex (h : Seen g from_ S) {j : Nat} (hj : j < S.length) : ∃ n q, S[j]? = some (n, q) := ⟨S[j].1, S[j].2, by simp [hj]⟩
theorem wayTo_fuel (h : Seen g from_ S) : ∀ f f' j, j ≤ f → j ≤ f' → j < S.length → wayTo S f j = wayTo S f' j
  | 0, 0, _, _, _, _ => rfl
  | 0, f' + 1, j, h1, _, _ => by
    obtain rfl : j = 0 := by omega
    simp [wayTo]
  | f + 1, 0, j, _, h2, _ => by
    obtain rfl : j = 0 := by omega
    simp [wayTo]
  | f + 1, f' + 1, j, h1, h2, hj => by
    unfold wayTo
    by_cases h0 : j = 0
    · simp [h0]
    · obtain ⟨n, q, e⟩ := h.ex hj
      have hb := (h.back j n q (by omega) e).1
      rw [if_neg h0, if_neg h0, getD_of e, wayTo_fuel h f f' q (by omega) (by omega) (by omega)]
/-- The way to a place. -/
def way (S : List (Nat × Nat)) (j : Nat) : List Nat := wayTo S j j
theorem way_zero (h : Seen g from_ S) : way S 0 = [from_] := by unfold way wayTo; rw [getD_of h.head]
theorem way_succ (h : Seen g from_ S) {j n q : Nat} (h0 : 0 < j) (e : S[j]? = some (n, q)) : way S j = way S q ++ [n] := by
  have hj : j < S.length := (List.getElem?_eq_some_iff.1 e).1
  obtain ⟨f, rfl⟩ : ∃ f, j = f + 1 := ⟨j - 1, by omega⟩
  have hb := (h.back _ n q h0 e).1
  unfold way
  rw [show wayTo S (f + 1) (f + 1) = wayTo S f q ++ [n] by
    conv => lhs; unfold wayTo
    rw [if_neg (by omega), getD_of e]]
  rw [wayTo_fuel h f q q (by omega) (Nat.le_refl _) (by omega)]
theorem way_is (h : Seen g from_ S) : ∀ j n q, S[j]? = some (n, q) → Way g from_ n (way S j) := by
  intro j
  induction j using Nat.strongRecOn with
  | _ j ih =>
    intro n q e
    by_cases h0 : j = 0
    · subst h0
      rw [h.head] at e
      cases e
      rw [way_zero h]
      exact way_one g from_
    · obtain ⟨hb, m, r, e2, hg⟩ := h.back j n q (by omega) e
      rw [way_succ h (by omega) e]
      exact (ih q hb m r e2).snoc hg
theorem at_one (h : Seen g from_ S) {i j n q r : Nat} (hi : S[i]? = some (n, q)) (hj : S[j]? = some (n, r)) : i = j := by
  obtain ⟨hli, ei⟩ := List.getElem?_eq_some_iff.1 hi
  obtain ⟨hlj, ej⟩ := List.getElem?_eq_some_iff.1 hj
  have key := List.pairwise_iff_getElem.1 h.nodup
  rcases Nat.lt_trichotomy i j with h1 | h1 | h1
  · have := key i j (by simp; omega) (by simp; omega) h1
    simp [ei, ej] at this
  · exact h1
  · have := key j i (by simp; omega) (by simp; omega) h1
    simp [ei, ej] at this
/-- Later ones are not nearer; of those that are as far the ways stand in order. -/
theorem way_mono (h : Seen g from_ S) : ∀ j, j < S.length → ∀ i, i ≤ j → (way S i).length ≤ (way S j).length ∧ ((way S i).length = (way S j).length → le (way S i) (way S j)) := by
  intro j
  induction j using Nat.strongRecOn with
  | _ j ih =>
    intro hj i hij
    by_cases e : i = j
    · subst e
      exact ⟨Nat.le_refl _, fun _ => le_refl _⟩
    · have hi : i < S.length := by omega
      obtain ⟨m, r, ej⟩ := h.ex hj
      rw [way_succ h (by omega) ej]
      by_cases h0 : i = 0
      · subst h0
        rw [way_zero h]
        obtain ⟨hb, m', r', e', _⟩ := h.back j m r (by omega) ej
        have h1 := (way_is h r m' r' e').1
        have h2 : 0 < (way S r).length := by
          rcases hw : way S r with _ | ⟨a, p⟩
          · rw [hw] at h1; exact h1.elim
          · simp
        simp only [List.length_append, List.length_cons, List.length_nil]
        exact ⟨by omega, fun e => by omega⟩
      · obtain ⟨n, q, ei⟩ := h.ex hi
        rw [way_succ h (by omega) ei]
        have hb := (h.back j m r (by omega) ej).1
        rcases h.order i j n q m r (by omega) (by omega) ei ej with h1 | ⟨rfl, h1⟩
        · obtain ⟨a, b⟩ := ih r hb (by omega) q (by omega)
          simp only [List.length_append, List.length_cons, List.length_nil]
          refine ⟨by omega, fun e => le_snoc (by omega) (b (by omega)) fun e2 => ?_⟩
          exfalso
          have hq : q < S.length := by omega
          obtain ⟨x, u, ex⟩ := h.ex hq
          obtain ⟨y, v, ey⟩ := h.ex (show r < S.length by omega)
          have l1 := (way_is h q x u ex).2.2
          have l2 := (way_is h r y v ey).2.2
          rw [e2, l2] at l1
          cases l1
          exact absurd (at_one h ex ey) (by omega)
        · simp only [List.length_append, List.length_cons, List.length_nil]
          exact ⟨by omega, fun _ => le_snoc rfl (le_refl _) fun _ => by omega⟩
/-- Where a way leads to: a place that is done, or the next one to be looked at is not farther. -/
theorem reach (h : Inv g from_ S c pre) : ∀ (k : Nat) (p : List Nat) (y : Nat), p.length = k → Way g from_ y p →
    (∃ i r, i ≤ c ∧ S[i]? = some (y, r) ∧ (way S i).length ≤ k ∧ ((way S i).length = k → le (way S i) p)) ∨
    (c < S.length ∧ (way S c).length ≤ k ∧ ((way S c).length = k → le (way S c) p)) := by
  intro k
  induction k with
  | zero =>
    intro p y hk hw
    have : p = [] := List.eq_nil_of_length_eq_zero hk
    subst this
    exact hw.1.elim
  | succ k ih =>
    intro p z hk hw
    by_cases h1 : 1 < p.length
    · obtain ⟨q, y, rfl, hw', hg⟩ := hw.split h1
      have hq : q.length = k := by simpa using hk
      rcases ih q y hq hw' with ⟨i, r, hi, e, hl, hle⟩ | ⟨hc, hl, hle⟩
      · by_cases hic : i = c
        · subst hic
          exact .inr ⟨(List.getElem?_eq_some_iff.1 e).1, by omega, fun e2 => by omega⟩
        · obtain ⟨j, u, ej, hju⟩ := h.closed i y r z (by omega) e hg
          have hjl := (List.getElem?_eq_some_iff.1 ej).1
          have hil := (List.getElem?_eq_some_iff.1 e).1
          -- the way to z is not longer than the one over y
          have key : (way S j).length ≤ k + 1 ∧ ((way S j).length = k + 1 → le (way S j) (q ++ [z])) := by
            by_cases hj0 : j = 0
            · subst hj0
              rw [way_zero h.toSeen]
              have : 0 < (way S i).length := by
                have h2 := (way_is h.toSeen i y r e).1
                rcases hw2 : way S i with _ | ⟨a, p⟩
                · rw [hw2] at h2; exact h2.elim
                · simp
              simp only [List.length_cons, List.length_nil]
              exact ⟨by omega, fun e => by omega⟩
            · have hu : u ≤ i := by rcases hju with h3 | h3; exact absurd h3 hj0; exact h3
              obtain ⟨a, b⟩ := way_mono h.toSeen i hil u hu
              rw [way_succ h.toSeen (by omega) ej]
              simp only [List.length_append, List.length_cons, List.length_nil]
              refine ⟨by omega, fun e2 => le_snoc (by omega) ?_ fun _ => Nat.le_refl _⟩
              exact le_trans (b (by omega)) (hle (by omega))
          by_cases hjc : j ≤ c
          · exact .inl ⟨j, u, hjc, ej, key.1, key.2⟩
          · obtain ⟨a, b⟩ := way_mono h.toSeen j hjl c (by omega)
            exact .inr ⟨by omega, by omega, fun e2 => le_trans (b (by omega)) (key.2 (by omega))⟩
      · exact .inr ⟨hc, by omega, fun e2 => by omega⟩
    · obtain ⟨hp, hh, hl⟩ := hw
      have hp1 : p = [from_] := by
        rcases p with _ | ⟨a, _ | ⟨b, p⟩⟩
        · simp at hk
        · simp at hh; rw [hh]
        · simp at h1
      subst hp1
      simp at hl hk
      subst hl
      subst hk
      exact .inl ⟨0, 0, Nat.zero_le _, h.head, by rw [way_zero h.toSeen]; exact Nat.le_refl _, fun _ => by rw [way_zero h.toSeen]; exact le_refl _⟩
/-- What was seen was seen on a way that is the first of the shortest. -/
theorem first (h : Inv g from_ S c pre) {j n u : Nat} (e : S[j]? = some (n, u)) {p : List Nat} (hw : Way g from_ n p) :
    (way S j).length ≤ p.length ∧ ((way S j).length = p.length → le (way S j) p) := by
  have hjl := (List.getElem?_eq_some_iff.1 e).1
  have hpl : 0 < p.length := by
    rcases p with _ | ⟨a, p⟩
    · exact hw.1.elim
    · simp
  rcases reach h p.length p n rfl hw with ⟨i, r, hi, e2, hl, hle⟩ | ⟨hc, hl, hle⟩
  · obtain rfl := at_one h.toSeen e2 e
    exact ⟨hl, hle⟩
  · by_cases h1 : 1 < p.length
    · obtain ⟨q, y, rfl, hw', hg⟩ := hw.split h1
      have hql : (q ++ [n]).length = q.length + 1 := by simp
      by_cases hj0 : j = 0
      · subst hj0
        rw [way_zero h.toSeen]
        simp only [List.length_append, List.length_cons, List.length_nil] at h1 ⊢
        exact ⟨by omega, fun e => by omega⟩
      rcases reach h q.length q y rfl hw' with ⟨i, r, hi, e2, hl2, hle2⟩ | ⟨_, hl2, hle2⟩
      · have hu : u ≤ i := by
          by_cases hic : i = c
          · rw [hic]; exact h.upto j n u (by omega) e
          · obtain ⟨j', u', ej', hju⟩ := h.closed i y r n (by omega) e2 hg
            obtain rfl := at_one h.toSeen ej' e
            rw [e] at ej'
            cases ej'
            rcases hju with h3 | h3
            · exact absurd h3 hj0
            · exact h3
        obtain ⟨a, b⟩ := way_mono h.toSeen i (List.getElem?_eq_some_iff.1 e2).1 u hu
        rw [way_succ h.toSeen (by omega) e]
        simp only [List.length_append, List.length_cons, List.length_nil]
        exact ⟨by omega, fun e3 => le_snoc (by omega) (le_trans (b (by omega)) (hle2 (by omega))) fun _ => Nat.le_refl _⟩
      · obtain ⟨a, b⟩ := way_mono h.toSeen c hc u (h.upto j n u (by omega) e)
        rw [way_succ h.toSeen (by omega) e]
        simp only [List.length_append, List.length_cons, List.length_nil]
        exact ⟨by omega, fun e3 => le_snoc (by omega) (le_trans (b (by omega)) (hle2 (by omega))) fun _ => Nat.le_refl _⟩
    · obtain ⟨_, hh, hl3⟩ := hw
      have hp1 : p = [from_] := by
        rcases p with _ | ⟨a, _ | ⟨b, p⟩⟩
        · simp at hpl
        · simp at hh; rw [hh]
        · simp at h1
      subst hp1
      simp at hl3
      subst hl3
      obtain rfl := at_one h.toSeen h.head e
      rw [way_zero h.toSeen]
      exact ⟨Nat.le_refl _, fun _ => le_refl _⟩
/-- Where all is done, all that can be reached was seen. -/
theorem all (h : Inv g from_ S S.length pre) {y : Nat} {p : List Nat} (hw : Way g from_ y p) : ∃ i r : Nat, S[i]? = some (y, r) := by
  rcases reach h p.length p y rfl hw with ⟨i, r, _, e, _⟩ | ⟨hc, _⟩
  · exact ⟨i, r, e⟩
  · omega
/-- No place stands twice on a way to what was seen. -/
theorem way_nodup (h : Seen g from_ S) : ∀ j n q, S[j]? = some (n, q) → (way S j).Nodup ∧ ∀ x ∈ way S j, ∃ i r : Nat, i ≤ j ∧ S[i]? = some (x, r) := by
  intro j
  induction j using Nat.strongRecOn with
  | _ j ih =>
    intro n q e
    by_cases h0 : j = 0
    · subst h0
      rw [way_zero h]
      refine ⟨by simp, fun x hx => ?_⟩
      obtain rfl : x = from_ := by simpa using hx
      exact ⟨0, 0, Nat.le_refl _, h.head⟩
    · obtain ⟨hb, m, r, e2, hg⟩ := h.back j n q (by omega) e
      obtain ⟨a, b⟩ := ih q hb m r e2
      rw [way_succ h (by omega) e]
      refine ⟨List.nodup_append.2 ⟨a, by simp, fun x hx y hy => ?_⟩, fun x hx => ?_⟩
      · obtain rfl : y = n := by simpa using hy
        rintro rfl
        obtain ⟨i, r', hi, ei⟩ := b x hx
        have := at_one h ei e
        omega
      · rcases List.mem_append.1 hx with h1 | h1
        · obtain ⟨i, r', hi, ei⟩ := b x h1
          exact ⟨i, r', by omega, ei⟩
        · obtain rfl : x = n := by simpa using h1
          exact ⟨j, q, Nat.le_refl _, e⟩
end Go.Proofs.Ytjgcbobalmmjkaa.Bf
