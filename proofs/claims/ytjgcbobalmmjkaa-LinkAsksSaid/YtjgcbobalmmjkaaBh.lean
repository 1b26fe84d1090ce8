/- Plain: distances backwards from the end give the first of the shortest ways; what can be reached, step by step. -/
import Derived.Test.YtjgcbobalmmjkaaBg
namespace Go.Proofs.Ytjgcbobalmmjkaa.Bf
set_option linter.unusedVariables false

/-- One more behind a list that is ahead of another, or its beginning. -/
theorem le_more : ∀ {p q : List Nat} {k : Nat}, p.length < q.length → le p q → (∀ y q', q = p ++ y :: q' → k ≤ y) → le (p ++ [k]) q
  | [], y :: q, k, _, _, h => by
    have := h y q rfl
    simp only [List.nil_append, le, and_true]
    omega
  | [], [], _, h, _, _ => by simp at h
  | _ :: _, [], _, h, _, _ => by simp at h
  | a :: p, b :: q, k, hl, h1, h2 => by
    simp only [le, List.cons_append] at *
    rcases h1 with h1 | ⟨rfl, h1⟩
    · exact .inl h1
    · exact .inr ⟨rfl, le_more (by simpa using hl) h1 (fun y q' e => h2 y q' (by rw [e]))⟩
/-- How far a place is from another: the length of a shortest way, less one. -/
def Far (g : Nat → Nat → Bool) (x y d : Nat) : Prop := (∃ p, Way g x y p ∧ p.length = d + 1) ∧ ∀ p, Way g x y p → d + 1 ≤ p.length
theorem Far.one {g : Nat → Nat → Bool} {x y d e : Nat} (h : Far g x y d) (k : Far g x y e) : d = e := by
  obtain ⟨⟨p, hp, lp⟩, h2⟩ := h
  obtain ⟨⟨q, hq, lq⟩, k2⟩ := k
  have := h2 q hq
  have := k2 p hp
  omega
theorem way_cons {g : Nat → Nat → Bool} {x y z : Nat} {p : List Nat} (hg : g x y = true) (h : Way g y z p) : Way g x z (x :: p) := by
  obtain ⟨h1, h2, h3⟩ := h
  rcases p with _ | ⟨a, p⟩
  · exact h1.elim
  · simp at h2
    subst h2
    exact ⟨⟨hg, h1⟩, rfl, by rw [List.getLast?_cons_cons]; exact h3⟩
theorem way_uncons {g : Nat → Nat → Bool} {x z : Nat} {p : List Nat} (h : Way g x z p) (hl : 1 < p.length) : ∃ y q, p = x :: q ∧ g x y = true ∧ Way g y z q := by
  obtain ⟨h1, h2, h3⟩ := h
  rcases p with _ | ⟨a, _ | ⟨b, p⟩⟩
  · simp at hl
  · simp at hl
  · simp at h2
    subst h2
    exact ⟨b, b :: p, rfl, h1.1, h1.2, rfl, by rw [List.getLast?_cons_cons] at h3; exact h3⟩
theorem way_append {g : Nat → Nat → Bool} : ∀ {p q : List Nat} {x y z : Nat}, Way g x y p → Way g y z (y :: q) → Way g x z (p ++ q)
  | [], _, _, _, _, h, _ => h.1.elim
  | [a], q, x, y, z, h, k => by
    have h1 := h.2.1
    have h2 := h.2.2
    simp at h1 h2
    subst h1
    subst h2
    exact k
  | a :: b :: p, q, x, y, z, h, k => by
    obtain ⟨w, r, e, hg, hw⟩ := way_uncons h (by simp)
    cases e
    obtain rfl : b = w := by simpa using hw.2.1
    exact way_cons hg (way_append hw k)
/-- The tail of a way from one of its places. -/
theorem way_drop {g : Nat → Nat → Bool} : ∀ {p q : List Nat} {x z w : Nat}, Way g x z (p ++ w :: q) → Way g w z (w :: q)
  | [], q, x, z, w, h => by
    have : w = x := by simpa using h.2.1
    subst this
    exact h
  | [a], q, x, z, w, h => by
    obtain ⟨y, r, e, _, hw⟩ := way_uncons h (by simp)
    cases e
    have : y = w := by have := hw.2.1; simp at this; exact this.symm
    subst this
    exact hw
  | a :: b :: p, q, x, z, w, h => by
    obtain ⟨y, r, e, _, hw⟩ := way_uncons h (by simp)
    have e2 : r = b :: p ++ w :: q := by simp at e; exact e.2.symm
    subst e2
    exact way_drop hw
theorem Far.zero (g : Nat → Nat → Bool) (x : Nat) : Far g x x 0 := ⟨⟨[x], way_one g x, rfl⟩, fun p hp => by
  rcases p with _ | ⟨a, p⟩
  · exact hp.1.elim
  · simp⟩
theorem far_zero {g : Nat → Nat → Bool} {x y : Nat} (h : Far g x y 0) : x = y := by
  obtain ⟨⟨p, hp, hl⟩, _⟩ := h
  rcases p with _ | ⟨a, _ | ⟨b, p⟩⟩
  · exact hp.1.elim
  · have h1 := hp.2.1
    have h2 := hp.2.2
    simp at h1 h2
    omega
  · simp at hl
/-- One step nearer. -/
theorem Far.step {g : Nat → Nat → Bool} {x z d : Nat} (h : Far g x z (d + 1)) : ∃ y, g x y = true ∧ Far g y z d := by
  obtain ⟨⟨p, hp, hl⟩, h2⟩ := h
  obtain ⟨y, q, rfl, hg, hw⟩ := way_uncons hp (by omega)
  refine ⟨y, hg, ⟨q, hw, by simpa using hl⟩, fun r hr => ?_⟩
  have := h2 _ (way_cons hg hr)
  simp at this
  exact this
/-- What the nearest that is looked for lays: a step to the least place that is one nearer. -/
structure Greedy (g : Nat → Nat → Bool) (x z : Nat) (out : List Nat) (at_ d D : Nat) : Prop where
  way : Way g x at_ out
  len : out.length + d = D + 1
  far : Far g at_ z d
  le : ∀ q, Way g x z q → q.length = D + 1 → le out q
theorem Greedy.start {g : Nat → Nat → Bool} {x z D : Nat} (h : Far g x z D) : Greedy g x z [x] x D D :=
  ⟨way_one g x, by simp; omega, h, fun q hq hl => by
    rcases q with _ | ⟨a, q⟩
    · exact hq.1.elim
    · have := hq.2.1
      simp at this
      subst this
      exact .inr ⟨rfl, trivial⟩⟩
theorem Greedy.step {g : Nat → Nat → Bool} {x z at_ d D k : Nat} {out : List Nat} (h : Greedy g x z out at_ (d + 1) D) (hg : g at_ k = true) (hk : Far g k z d) (hmin : ∀ y, g at_ y = true → Far g y z d → k ≤ y) :
    Greedy g x z (out ++ [k]) k d D := by
  refine ⟨h.way.snoc hg, by have := h.len; simp; omega, hk, fun q hq hl => ?_⟩
  refine le_more (by have := h.len; omega) (h.le q hq hl) fun y q' e => ?_
  subst e
  -- out ends in at_; behind it stands y
  obtain ⟨o, ho⟩ : ∃ o, out = o ++ [at_] := by
    have h3 := h.way.2.2
    have hne : out ≠ [] := by intro e; rw [e] at h3; simp at h3
    have h4 := List.dropLast_concat_getLast hne
    rw [List.getLast?_eq_some_getLast hne] at h3
    cases h3
    exact ⟨_, h4.symm⟩
  have hlen := h.len
  rw [ho] at hq hlen hl
  rw [List.append_assoc] at hq
  have hw := way_drop hq
  obtain ⟨y', r, e, hg', hw'⟩ := way_uncons hw (by simp)
  have e2 : r = y :: q' := by simp at e; exact e.symm
  subst e2
  obtain rfl : y' = y := by have := hw'.2.1; simp at this; exact this.symm
  refine hmin _ hg' ⟨⟨_, hw', by simp at hlen hl ⊢; omega⟩, fun p hp => ?_⟩
  have := h.far.2 _ (way_cons hg' hp)
  simpa using this
theorem Greedy.done {g : Nat → Nat → Bool} {x z at_ D : Nat} {out : List Nat} (h : Greedy g x z out at_ 0 D) (hD : Far g x z D) : at_ = z ∧ FirstWay g x z out := by
  obtain rfl := far_zero h.far
  refine ⟨rfl, h.way, fun q hq => ?_⟩
  have h1 := h.len
  have h2 := hD.2 q hq
  exact ⟨by omega, fun e => h.le q hq (by omega)⟩
/-- The distances that are known behind so many rounds. -/
def FarUp (g : Nat → Nat → Bool) (n z step : Nat) (f : Nat → Int) : Prop := ∀ i, i < n → (∀ d : Nat, d ≤ step → (f i = d ↔ Far g i z d)) ∧ (f i = -1 ∨ ∃ d : Nat, d ≤ step ∧ f i = d)
theorem FarUp.start (g : Nat → Nat → Bool) (n z : Nat) (f : Nat → Int) (hz : f z = 0) (ho : ∀ i, i < n → i ≠ z → f i = -1) : FarUp g n z 0 f := fun i hi => by
  by_cases e : i = z
  · subst e
    refine ⟨fun d hd => ?_, .inr ⟨0, Nat.le_refl _, hz⟩⟩
    obtain rfl : d = 0 := by omega
    exact ⟨fun _ => Far.zero g i, fun _ => hz⟩
  · refine ⟨fun d hd => ?_, .inl (ho i hi e)⟩
    obtain rfl : d = 0 := by omega
    exact ⟨fun h => by rw [ho i hi e] at h; simp at h, fun h => absurd (far_zero h) e⟩
/-- What one look over all places brings: those without a distance that refer to one of distance 'step' have the next one. -/
def nextFar (g : Nat → Nat → Bool) (n step : Nat) (f : Nat → Int) (i : Nat) : Int :=
  if f i < 0 ∧ (∃ k, k < n ∧ g i k = true ∧ f k = step) then step + 1 else f i
theorem FarUp.next {g : Nat → Nat → Bool} {n z step : Nat} {f f' : Nat → Int} (hn : ∀ i k, g i k = true → k < n) (h : FarUp g n z step f)
    (h1 : ∀ i, i < n → f i < 0 → (∃ k, k < n ∧ g i k = true ∧ f k = step) → f' i = step + 1)
    (h2 : ∀ i, i < n → ¬ (f i < 0 ∧ ∃ k, k < n ∧ g i k = true ∧ f k = step) → f' i = f i) : FarUp g n z (step + 1) f' := fun i hi => by
  obtain ⟨a, b⟩ := h i hi
  by_cases hc : f i < 0 ∧ ∃ k, k < n ∧ g i k = true ∧ f k = step
  · have e := h1 i hi hc.1 hc.2
    obtain ⟨h0, k, hk, hg, hf⟩ := hc
    have hk' := ((h k hk).1 step (Nat.le_refl _)).1 hf
    have hfar : Far g i z (step + 1) := by
      obtain ⟨⟨p, hp, hl⟩, h4⟩ := hk'
      refine ⟨⟨_, way_cons hg hp, by simpa using hl⟩, fun q hq => ?_⟩
      rcases Nat.lt_or_ge q.length (step + 2) with h5 | h5
      · exfalso
        -- a shorter way: its distance would be known
        have : ∃ d, d ≤ step ∧ Far g i z d := by
          have : ∀ m : Nat, ∀ r, Way g i z r → r.length = m + 1 → m ≤ step → ∃ d, d ≤ step ∧ Far g i z d := by
            intro m
            induction m using Nat.strongRecOn with
            | _ m ih =>
              intro r hr hl hm
              by_cases hx : ∀ s, Way g i z s → m + 1 ≤ s.length
              · exact ⟨m, hm, ⟨r, hr, hl⟩, hx⟩
              · have ⟨s, hs⟩ := Classical.not_forall.1 hx
                have ⟨hs1, hs2⟩ := Classical.not_imp.1 hs
                have hsl : 0 < s.length := by
                  rcases s with _ | ⟨a, s⟩
                  · exact hs1.1.elim
                  · simp
                exact ih (s.length - 1) (by omega) s hs1 (by omega) (by omega)
          have hql : 0 < q.length := by
            rcases q with _ | ⟨a, q⟩
            · exact hq.1.elim
            · simp
          exact this (q.length - 1) q hq (by omega) (by omega)
        obtain ⟨d, hd, hf2⟩ := this
        have := ((a d hd).2 hf2)
        omega
      · omega
    refine ⟨fun d hd => ⟨fun h5 => ?_, fun h5 => ?_⟩, .inr ⟨step + 1, Nat.le_refl _, by rw [e]; omega⟩⟩
    · obtain rfl : d = step + 1 := by omega
      exact hfar
    · rw [h5.one hfar, e]; omega
  · have e := h2 i hi hc
    refine ⟨fun d hd => ?_, ?_⟩
    · rcases Nat.lt_or_eq_of_le hd with h3 | rfl
      · rw [e]; exact a d (by omega)
      · rw [e]
        refine ⟨fun h5 => ?_, fun h5 => ?_⟩
        · rcases b with b | ⟨d, hd, b⟩ <;> omega
        · exfalso
          obtain ⟨y, hg, hy⟩ := h5.step
          have hyn := hn i y hg
          have hfy := ((h y hyn).1 step (Nat.le_refl _)).2 hy
          refine hc ⟨?_, y, hyn, hg, hfy⟩
          rcases b with b | ⟨d, hd, b⟩
          · omega
          · have := ((a d hd).1 b).one h5
            omega
    · rcases b with b | ⟨d, hd, b⟩
      · exact .inl (by rw [e]; exact b)
      · exact .inr ⟨d, by omega, by rw [e]; exact b⟩
/-- Where a look brings nothing new, all distances are known. -/
theorem FarUp.all {g : Nat → Nat → Bool} {n z step : Nat} {f : Nat → Int} (hn : ∀ i k, g i k = true → k < n) (h : FarUp g n z step f) (hstop : ∀ i, i < n → f i < 0 → ¬ ∃ k, k < n ∧ g i k = true ∧ f k = step) :
    ∀ i, i < n → ∀ d : Nat, (f i = d ↔ Far g i z d) := by
  have none : ∀ d : Nat, step < d → ∀ i, i < n → ¬ Far g i z d := by
    intro d
    induction d using Nat.strongRecOn with
    | _ d ih =>
      intro hd i hi hf
      obtain ⟨e, rfl⟩ : ∃ e, d = e + 1 := ⟨d - 1, by omega⟩
      obtain ⟨y, hg, hy⟩ := hf.step
      have hyn := hn i y hg
      by_cases he : e = step
      · subst he
        refine hstop i hi ?_ ⟨y, hyn, hg, ((h y hyn).1 e (Nat.le_refl _)).2 hy⟩
        rcases (h i hi).2 with b | ⟨d, hd, b⟩
        · omega
        · have := (((h i hi).1 d hd).1 b).one hf
          omega
      · exact ih e (by omega) (by omega) y hyn hy
  intro i hi d
  by_cases hd : d ≤ step
  · exact (h i hi).1 d hd
  · refine ⟨fun e => ?_, fun e => absurd e (none d (by omega) i hi)⟩
    rcases (h i hi).2 with b | ⟨d', hd', b⟩ <;> omega
end Go.Proofs.Ytjgcbobalmmjkaa.Bf
