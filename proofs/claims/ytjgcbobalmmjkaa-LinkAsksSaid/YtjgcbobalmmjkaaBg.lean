/- Plain: the walk's steps; the way that is the first of the shortest is one; by distances backwards from the end it is the same. -/
import Derived.Test.YtjgcbobalmmjkaaBf
namespace Go.Proofs.Ytjgcbobalmmjkaa.Bf
set_option linter.unusedVariables false

/-- What a walk holds between two looks: all that the place that is looked at has laid so far is of the part. -/
structure St (g : Nat → Nat → Bool) (from_ : Nat) (S : List (Nat × Nat)) (c : Nat) (pre : Nat → Prop) : Prop extends Inv g from_ S c pre where
  own : ∀ j n, 0 < j → S[j]? = some (n, c) → pre n
variable {g : Nat → Nat → Bool} {from_ : Nat} {S : List (Nat × Nat)} {c : Nat} {pre : Nat → Prop}
theorem St.start (g : Nat → Nat → Bool) (x : Nat) : St g x [(x, 0)] 0 (fun _ => False) := by
  have one : ∀ j n q, 0 < j → [(x, 0)][j]? ≠ some (n, q) := fun j n q h e => by
    obtain ⟨j, rfl⟩ : ∃ k, j = k + 1 := ⟨j - 1, by omega⟩
    simp at e
  exact ⟨⟨⟨rfl, fun j n q h e => absurd e (one j n q h), by simp, fun i j n q m r h h1 e => absurd e (one i n q h)⟩, Nat.zero_le _, fun i _ _ _ h => absurd h (Nat.not_lt_zero _), fun _ _ _ _ h => h.elim, fun j n q h e => absurd e (one j n q h)⟩, fun j n h e => absurd e (one j n 0 h)⟩
theorem mem_at {S : List (Nat × Nat)} {n : Nat} (h : n ∈ S.map (·.1)) : ∃ j q : Nat, S[j]? = some (n, q) := by
  obtain ⟨⟨a, q⟩, h1, rfl⟩ := List.mem_map.1 h
  obtain ⟨j, hj, e⟩ := List.mem_iff_getElem.1 h1
  exact ⟨j, q, by simp [hj, e]⟩
theorem at_mem {S : List (Nat × Nat)} {n j q : Nat} (h : S[j]? = some (n, q)) : n ∈ S.map (·.1) := by
  obtain ⟨hj, e⟩ := List.getElem?_eq_some_iff.1 h
  exact List.mem_map.2 ⟨S[j], List.getElem_mem hj, by rw [e]⟩
/-- What is looked at has been seen. -/
theorem St.old (h : St g from_ S c pre) {m r n : Nat} (hc : S[c]? = some (m, r)) (hg : g m n = true) (hn : n ∈ S.map (·.1)) : St g from_ S c (fun z => pre z ∨ z = n) := by
  obtain ⟨j, q, e⟩ := mem_at hn
  refine ⟨⟨h.toSeen, h.le, h.closed, fun m' r' z e2 hz => ?_, h.upto⟩, fun j n h0 e => .inl (h.own j n h0 e)⟩
  rcases hz with hz | rfl
  · exact h.part m' r' z e2 hz
  · rw [hc] at e2
    cases e2
    exact ⟨hg, j, q, e, by
      rcases Nat.eq_zero_or_pos j with h0 | h0
      · exact .inl h0
      · exact .inr (h.upto j z q h0 e)⟩
/-- What is looked at is new. -/
theorem St.new (h : St g from_ S c pre) {m r n : Nat} (hc : S[c]? = some (m, r)) (hg : g m n = true) (hn : n ∉ S.map (·.1)) (hpre : ∀ z, pre z → z < n) : St g from_ (S ++ [(n, c)]) c (fun z => pre z ∨ z = n) := by
  have hcl := (List.getElem?_eq_some_iff.1 hc).1
  have old : ∀ {j : Nat} {x : Nat × Nat}, S[j]? = some x → (S ++ [(n, c)])[j]? = some x := fun {j x} e => by
    rw [List.getElem?_append_left (List.getElem?_eq_some_iff.1 e).1]; exact e
  have back : ∀ {j : Nat} {x : Nat × Nat}, (S ++ [(n, c)])[j]? = some x → S[j]? = some x ∨ (j = S.length ∧ x = (n, c)) := fun {j x} e => by
    rcases Nat.lt_or_ge j S.length with h1 | h1
    · rw [List.getElem?_append_left h1] at e; exact .inl e
    · rw [List.getElem?_append_right h1] at e
      have : j - S.length = 0 := by
        rcases Nat.eq_zero_or_pos (j - S.length) with h2 | h2
        · exact h2
        · obtain ⟨k, hk⟩ : ∃ k, j - S.length = k + 1 := ⟨j - S.length - 1, by omega⟩
          rw [hk] at e; simp at e
      rw [this] at e
      simp at e
      exact .inr ⟨by omega, e.symm⟩
  refine ⟨⟨⟨old h.head, fun j x q h0 e => ?_, ?_, fun i j x q y r h0 hij ei ej => ?_⟩, by simp; have := h.le; omega, fun i m' r' z hi e hz => ?_, fun m' r' z e hz => ?_, fun j x q h0 e => ?_⟩, fun j x h0 e => ?_⟩
  · have b_ := back e; clear e; rcases b_ with e | ⟨rfl, e⟩
    · obtain ⟨hb, m', r', e2, hg2⟩ := h.back j x q h0 e
      exact ⟨hb, m', r', old e2, hg2⟩
    · cases e
      exact ⟨hcl, m, r, old hc, hg⟩
  · rw [List.map_append, List.nodup_append]
    refine ⟨h.nodup, by simp, fun x hx y hy => ?_⟩
    obtain rfl : y = n := by simpa using hy
    rintro rfl
    exact hn hx
  · have b_ := back ej; clear ej; rcases b_ with ej | ⟨rfl, ej⟩
    · have b_ := back ei; clear ei; rcases b_ with ei | ⟨rfl, ei⟩
      · exact h.order i j x q y r h0 hij ei ej
      · have := (List.getElem?_eq_some_iff.1 ej).1
        omega
    · cases ej
      have b_ := back ei; clear ei; rcases b_ with ei | ⟨rfl, ei⟩
      · rcases Nat.lt_or_eq_of_le (h.upto i x q h0 ei) with h1 | h1
        · exact .inl h1
        · subst h1
          exact .inr ⟨rfl, hpre x (h.own i x h0 ei)⟩
      · omega
  · have b_ := back e; clear e; rcases b_ with e | ⟨rfl, e⟩
    · obtain ⟨j, q, e2, hj⟩ := h.closed i m' r' z hi e hz
      exact ⟨j, q, old e2, hj⟩
    · have := h.le; omega
  · have b_ := back e; clear e; rcases b_ with e | ⟨rfl, e⟩
    · rcases hz with hz | rfl
      · obtain ⟨a, j, q, e2, hj⟩ := h.part m' r' z e hz
        exact ⟨a, j, q, old e2, hj⟩
      · rw [hc] at e
        cases e
        exact ⟨hg, S.length, c, by simp, .inr (Nat.le_refl _)⟩
    · omega
  · have b_ := back e; clear e; rcases b_ with e | ⟨rfl, e⟩
    · exact h.upto j x q h0 e
    · cases e; exact Nat.le_refl _
  · have b_ := back e; clear e; rcases b_ with e | ⟨rfl, e⟩
    · exact .inl (h.own j x h0 e)
    · cases e; exact .inr rfl
theorem St.imp {pre' : Nat → Prop} (h : St g from_ S c pre) (h1 : ∀ z, pre z ↔ pre' z) : St g from_ S c pre' := by
  have : pre = pre' := funext fun z => propext (h1 z)
  exact this ▸ h
/-- All that a place refers to was looked at: it is done. -/
theorem St.next (h : St g from_ S c pre) {m r : Nat} (hc : S[c]? = some (m, r)) (hall : ∀ z, g m z = true → pre z) : St g from_ S (c + 1) (fun _ => False) := by
  have hcl := (List.getElem?_eq_some_iff.1 hc).1
  refine ⟨⟨h.toSeen, hcl, fun i m' r' z hi e hz => ?_, fun _ _ _ _ h => h.elim, fun j n q h0 e => Nat.le_succ_of_le (h.upto j n q h0 e)⟩, fun j n h0 e => ?_⟩
  · rcases Nat.lt_or_eq_of_le (Nat.le_of_lt_succ hi) with h1 | rfl
    · exact h.closed i m' r' z h1 e hz
    · rw [hc] at e
      cases e
      obtain ⟨_, j, q, e2, hj⟩ := h.part m r z hc (hall z hz)
      exact ⟨j, q, e2, hj⟩
  · have := h.upto j n _ h0 e
    omega

/-- The first of the shortest ways. -/
def FirstWay (g : Nat → Nat → Bool) (x y : Nat) (p : List Nat) : Prop := Way g x y p ∧ ∀ q, Way g x y q → p.length ≤ q.length ∧ (p.length = q.length → le p q)
theorem FirstWay.one {x y : Nat} {p q : List Nat} (h : FirstWay g x y p) (k : FirstWay g x y q) : p = q := by
  obtain ⟨a1, a2⟩ := h.2 q k.1
  obtain ⟨b1, b2⟩ := k.2 p h.1
  have e : p.length = q.length := by omega
  exact le_anti e (a2 e) (b2 e.symm)
theorem St.firstWay (h : St g from_ S c pre) {j n u : Nat} (e : S[j]? = some (n, u)) : FirstWay g from_ n (way S j) := ⟨way_is h.toSeen j n u e, fun q hq => first h.toInv e hq⟩
end Go.Proofs.Ytjgcbobalmmjkaa.Bf
