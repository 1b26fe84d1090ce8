/- Plain: a list of numbers put in order, each once; the references that count; who refers to whom. -/
import Derived.Lib.SlicesCompact
import Derived.Test.YtjgcbobalmmjkaaBh
namespace Go.Proofs.Ytjgcbobalmmjkaa
open Go.Lib
set_option linter.unusedVariables false

/-- Lists that rise and have the same members are one. -/
theorem inc_ext {α : Type} {lt : α → α → Prop} (irr : ∀ a, ¬ lt a a) (asy : ∀ a b, lt a b → ¬ lt b a) : ∀ {a b : List α}, a.Pairwise lt → b.Pairwise lt → (∀ x, x ∈ a ↔ x ∈ b) → a = b
  | [], [], _, _, _ => rfl
  | [], y :: b, _, _, h => by have := (h y).2 (by simp); simp at this
  | x :: a, [], _, _, h => by have := (h x).1 (by simp); simp at this
  | x :: a, y :: b, ha, hb, h => by
    obtain ⟨h1, h2⟩ := List.pairwise_cons.1 ha
    obtain ⟨h3, h4⟩ := List.pairwise_cons.1 hb
    have e : x = y := by
      have hx := (h x).1 (by simp)
      have hy := (h y).2 (by simp)
      rcases List.mem_cons.1 hx with e | hx
      · exact e
      · rcases List.mem_cons.1 hy with e | hy
        · exact e.symm
        · exact absurd (h3 x hx) (asy _ _ (h1 y hy))
    subst e
    have hxa : x ∉ a := fun hm => irr x (h1 x hm)
    have hxb : x ∉ b := fun hm => irr x (h3 x hm)
    rw [inc_ext irr asy h2 h4 (fun z => by
      constructor
      · intro hz
        rcases List.mem_cons.1 ((h z).1 (List.mem_cons_of_mem _ hz)) with rfl | hz'
        · exact absurd hz hxa
        · exact hz'
      · intro hz
        rcases List.mem_cons.1 ((h z).2 (List.mem_cons_of_mem _ hz)) with rfl | hz'
        · exact absurd hz hxb
        · exact hz')]
theorem inc_int {a b : List Int} (ha : a.Pairwise (· < ·)) (hb : b.Pairwise (· < ·)) (h : ∀ x, x ∈ a ↔ x ∈ b) : a = b := inc_ext (fun a => by omega) (fun a b h => by omega) ha hb h
theorem inc_nat {a b : List Nat} (ha : a.Pairwise (· < ·)) (hb : b.Pairwise (· < ·)) (h : ∀ x, x ∈ a ↔ x ∈ b) : a = b := inc_ext (fun a => by omega) (fun a b h => by omega) ha hb h
theorem range_inc (n : Nat) : (List.range n).Pairwise (· < ·) := List.pairwise_lt_range
/-- What Compact leaves of a list that is in order: it rises, and has the same members. -/
theorem compact_inc {zs : List Int} (hs : zs.Pairwise (· ≤ ·)) : (compact zs).Pairwise (· < ·) := by
  unfold compact compactUpTo
  refine List.pairwise_map.2 ?_
  have h1 := (range_inc zs.length).filter (keeps zs.toArray)
  refine List.Pairwise.imp_of_mem ?_ h1
  intro i j hi hj hij
  have hj' := (List.mem_filter.1 hj)
  have hi' := (List.mem_filter.1 hi)
  have hjl : j < zs.length := List.mem_range.1 hj'.1
  have hk := hj'.2
  have key := List.pairwise_iff_getElem.1 hs
  unfold keeps at hk
  have hk2 : zs.toArray[j]! ≠ zs.toArray[j - 1]! := by
    rcases of_decide_eq_true hk with h | h
    · omega
    · exact h
  have e1 : zs.toArray[j]! = zs[j] := by simp [getElem!_pos, hjl]
  have e2 : zs.toArray[j - 1]! = zs[j - 1] := by rw [getElem!_pos _ _ (by simp; omega)]; simp
  have e3 : zs.toArray[i]! = zs[i] := by rw [getElem!_pos _ _ (by simp; omega)]; simp
  rw [e1, e2] at hk2
  rw [e1, e3]
  have h2 := key (j - 1) j (by omega) hjl (by omega)
  have h3 : zs[i] ≤ zs[j - 1] := by
    rcases Nat.lt_or_eq_of_le (show i ≤ j - 1 by omega) with h | h
    · exact key i (j - 1) (by omega) (by omega) h
    · simp only [h]; exact Int.le_refl _
  omega
theorem compact_mem {zs : List Int} (x : Int) : x ∈ compact zs ↔ x ∈ zs := by
  unfold compact compactUpTo
  constructor
  · intro h
    obtain ⟨j, hj, rfl⟩ := List.mem_map.1 h
    have hjl : j < zs.length := List.mem_range.1 (List.mem_filter.1 hj).1
    rw [getElem!_pos _ _ (by simpa using hjl)]
    simp
  · intro h
    -- the first place that holds x
    have : ∀ m : Nat, ∀ hm : m < zs.length, zs[m] = x → ∃ j, j < zs.length ∧ zs.toArray[j]! = x ∧ keeps zs.toArray j = true := by
      intro m
      induction m using Nat.strongRecOn with
      | _ m ih =>
        intro hm e
        have e1 : zs.toArray[m]! = x := by rw [getElem!_pos _ _ (by simpa using hm)]; simpa using e
        by_cases hk : keeps zs.toArray m = true
        · exact ⟨m, hm, e1, hk⟩
        · unfold keeps at hk
          have hk' : ¬ (m = 0 ∨ zs.toArray[m]! ≠ zs.toArray[m - 1]!) := fun h => hk (decide_eq_true h)
          have h0 : m ≠ 0 := fun e => hk' (.inl e)
          have h1 : zs.toArray[m]! = zs.toArray[m - 1]! := Classical.byContradiction fun e => hk' (.inr e)
          refine ih (m - 1) (by omega) (by omega) ?_
          rw [e1, getElem!_pos _ _ (by simp; omega)] at h1
          simpa using h1.symm
    obtain ⟨m, hm, e⟩ := List.mem_iff_getElem.1 h
    obtain ⟨j, hj, e1, hk⟩ := this m hm e
    exact List.mem_map.2 ⟨j, List.mem_filter.2 ⟨List.mem_range.2 hj, hk⟩, e1⟩
def intsL (l : List Nat) : List Int := l.map fun (x : Nat) => (x : Int)
/-- The numbers of a list, rising, each once. -/
def rsg (zs : List Nat) : List Nat := (List.range (zs.foldr max 0 + 1)).filter fun x => decide (x ∈ zs)
theorem le_foldr : ∀ {zs : List Nat} {x : Nat}, x ∈ zs → x ≤ zs.foldr max 0
  | z :: zs, x, h => by
    rcases List.mem_cons.1 h with rfl | h
    · exact Nat.le_max_left _ _
    · exact Nat.le_trans (le_foldr h) (Nat.le_max_right _ _)
theorem rsg_mem {zs : List Nat} (x : Nat) : x ∈ rsg zs ↔ x ∈ zs := by
  unfold rsg
  rw [List.mem_filter]
  constructor
  · intro h; exact of_decide_eq_true h.2
  · intro h
    exact ⟨List.mem_range.2 (by have := le_foldr h; omega), decide_eq_true h⟩
theorem rsg_inc (zs : List Nat) : (rsg zs).Pairwise (· < ·) := (range_inc _).filter _
theorem sort_le (zs : List Int) : (zs.mergeSort fun x y => decide (x ≤ y)).Pairwise (· ≤ ·) := by
  have h := List.pairwise_mergeSort (le := fun (x y : Int) => decide (x ≤ y)) (fun a b c h1 h2 => by
    have := of_decide_eq_true h1; have := of_decide_eq_true h2; exact decide_eq_true (by omega)) (fun a b => by
    by_cases h : a ≤ b
    · simp [h]
    · simp [show b ≤ a by omega]) zs
  exact h.imp fun h => of_decide_eq_true h
theorem rising_is (zs : List Nat) : compact ((intsL zs).mergeSort fun x y => decide (x ≤ y)) = intsL (rsg zs) := by
  refine inc_int (compact_inc (sort_le _)) ?_ fun x => ?_
  · unfold intsL
    exact List.pairwise_map.2 ((rsg_inc zs).imp fun h => by omega)
  · rw [compact_mem, (List.mergeSort_perm _ _).mem_iff]
    unfold intsL
    simp only [List.mem_map, rsg_mem]
theorem rsg_len (zs : List Nat) : (rsg zs).length ≤ zs.length := by
  have h := congrArg List.length (rising_is zs)
  have h2 : (intsL (rsg zs)).length = (rsg zs).length := by simp [intsL]
  have h3 : (compact ((intsL zs).mergeSort fun x y => decide (x ≤ y))).length ≤ ((intsL zs).mergeSort fun x y => decide (x ≤ y)).length := by
    unfold compact compactUpTo
    rw [List.length_map]
    exact Nat.le_trans (List.length_filter_le _ _) (by simp)
  have h4 : ((intsL zs).mergeSort fun x y => decide (x ≤ y)).length = zs.length := by rw [List.length_mergeSort]; simp [intsL]
  omega

/-- A reference. -/
structure Rf where
  fr : Int
  to : Int
  note : Int
  nam : ByteArray
  line : Int
  col : Int
/-- A reference that counts, of so many topics. -/
structure Cn (n : Nat) where
  fr : Nat
  to : Nat
  hf : fr < n
  ht : to < n
  note : Int
  nam : ByteArray
  line : Int
  col : Int
def isT (x : Int) (n : Nat) : Bool := decide (0 ≤ x ∧ x < n)
def cn1 (n : Nat) (r : Rf) : Option (Cn n) := if h : (0 ≤ r.fr ∧ r.fr < n) ∧ (0 ≤ r.to ∧ r.to < n) then some ⟨r.fr.toNat, r.to.toNat, by omega, by omega, r.note, r.nam, r.line, r.col⟩ else none
/-- The references that count. -/
def cnt (n : Nat) (l : List Rf) : List (Cn n) := l.filterMap (cn1 n)
/-- Whether a topic refers to another one. -/
def edge (l : List Rf) (n i k : Nat) : Bool := (cnt n l).any fun r => r.fr == i && r.to == k
theorem edge_iff {l : List Rf} {n i k : Nat} : edge l n i k = true ↔ ∃ r ∈ cnt n l, r.fr = i ∧ r.to = k := by
  unfold edge
  simp only [List.any_eq_true, Bool.and_eq_true, beq_iff_eq]
theorem edge_lt {l : List Rf} {n i k : Nat} (h : edge l n i k = true) : i < n ∧ k < n := by
  obtain ⟨r, _, rfl, rfl⟩ := edge_iff.1 h
  exact ⟨r.hf, r.ht⟩
theorem cnt_len (n : Nat) (l : List Rf) : (cnt n l).length ≤ l.length := List.length_filterMap_le _ _
theorem cnt_snoc (n : Nat) (l : List Rf) (r : Rf) : cnt n (l ++ [r]) = cnt n l ++ (cn1 n r).toList := by
  unfold cnt
  rw [List.filterMap_append]
  cases h : cn1 n r <;> simp [h]
/-- Those to whom a topic refers, those who refer to it, in the order of the references. -/
def outs {n : Nat} (i : Nat) (pre : List (Cn n)) : List Nat := (pre.filter fun r => r.fr == i).map (·.to)
def intos {n : Nat} (i : Nat) (pre : List (Cn n)) : List Nat := (pre.filter fun r => r.to == i).map (·.fr)
theorem outs_snoc {n : Nat} (i : Nat) (pre : List (Cn n)) (r : Cn n) : outs i (pre ++ [r]) = if r.fr == i then outs i pre ++ [r.to] else outs i pre := by
  unfold outs
  rw [List.filter_append, List.map_append]
  by_cases h : (r.fr == i) = true <;> simp [h]
theorem intos_snoc {n : Nat} (i : Nat) (pre : List (Cn n)) (r : Cn n) : intos i (pre ++ [r]) = if r.to == i then intos i pre ++ [r.fr] else intos i pre := by
  unfold intos
  rw [List.filter_append, List.map_append]
  by_cases h : (r.to == i) = true <;> simp [h]
theorem outs_mem {n : Nat} {i k : Nat} {l : List Rf} : k ∈ outs i (cnt n l) ↔ edge l n i k = true := by
  rw [edge_iff]
  unfold outs
  simp only [List.mem_map, List.mem_filter, beq_iff_eq]
  constructor
  · rintro ⟨r, ⟨h1, h2⟩, rfl⟩; exact ⟨r, h1, h2, rfl⟩
  · rintro ⟨r, h1, h2, rfl⟩; exact ⟨r, ⟨h1, h2⟩, rfl⟩
theorem intos_mem {n : Nat} {i k : Nat} {l : List Rf} : k ∈ intos i (cnt n l) ↔ edge l n k i = true := by
  rw [edge_iff]
  unfold intos
  simp only [List.mem_map, List.mem_filter, beq_iff_eq]
  constructor
  · rintro ⟨r, ⟨h1, h2⟩, rfl⟩; exact ⟨r, h1, rfl, h2⟩
  · rintro ⟨r, h1, rfl, h2⟩; exact ⟨r, ⟨h1, h2⟩, rfl⟩
theorem outs_len {n : Nat} (i : Nat) (pre : List (Cn n)) : (outs i pre).length ≤ pre.length := by unfold outs; rw [List.length_map]; exact List.length_filter_le _ _
theorem intos_len {n : Nat} (i : Nat) (pre : List (Cn n)) : (intos i pre).length ≤ pre.length := by unfold intos; rw [List.length_map]; exact List.length_filter_le _ _
def outM (l : List Rf) (n i : Nat) : List Nat := (List.range n).filter fun k => edge l n i k
def intoM (l : List Rf) (n i : Nat) : List Nat := (List.range n).filter fun k => edge l n k i
theorem rsg_outs {n : Nat} (l : List Rf) (i : Nat) : rsg (outs i (cnt n l)) = outM l n i := inc_nat (rsg_inc _) ((range_inc _).filter _) fun x => by
  rw [rsg_mem, outs_mem]
  unfold outM
  rw [List.mem_filter, List.mem_range]
  exact ⟨fun h => ⟨(edge_lt h).2, h⟩, fun h => h.2⟩
theorem rsg_intos {n : Nat} (l : List Rf) (i : Nat) : rsg (intos i (cnt n l)) = intoM l n i := inc_nat (rsg_inc _) ((range_inc _).filter _) fun x => by
  rw [rsg_mem, intos_mem]
  unfold intoM
  rw [List.mem_filter, List.mem_range]
  exact ⟨fun h => ⟨(edge_lt h).1, h⟩, fun h => h.2⟩
theorem outM_mem {l : List Rf} {n i k : Nat} : k ∈ outM l n i ↔ edge l n i k = true := by rw [← rsg_outs, rsg_mem, outs_mem]
theorem intoM_mem {l : List Rf} {n i k : Nat} : k ∈ intoM l n i ↔ edge l n k i = true := by rw [← rsg_intos, rsg_mem, intos_mem]
theorem outM_inc (l : List Rf) (n i : Nat) : (outM l n i).Pairwise (· < ·) := (range_inc _).filter _
theorem outM_len (l : List Rf) (n i : Nat) : (outM l n i).length ≤ n := Nat.le_trans (List.length_filter_le _ _) (by simp)
/-- How many references a topic has from others. -/
def others {n : Nat} (k : Nat) (pre : List (Cn n)) : Nat := (pre.filter fun r => r.to == k && !(r.fr == r.to)).length
theorem others_snoc {n : Nat} (k : Nat) (pre : List (Cn n)) (r : Cn n) : others k (pre ++ [r]) = if r.to = k ∧ r.fr ≠ r.to then others k pre + 1 else others k pre := by
  unfold others
  rw [List.filter_append, List.length_append, List.filter_cons, List.filter_nil]
  by_cases h : r.to = k
  · by_cases h2 : r.fr = r.to
    · rw [if_neg (by simp [h2]), if_neg (by simp [h2])]; rfl
    · rw [if_pos (by simp [h]; exact fun e => h2 (e.trans h.symm)), if_pos ⟨h, h2⟩]; rfl
  · rw [if_neg (by simp [h]), if_neg (by simp [h])]; rfl
theorem others_len {n : Nat} (k : Nat) (pre : List (Cn n)) : others k pre ≤ pre.length := List.length_filter_le _ _
def aloneB (l : List Rf) (n i : Nat) : Bool := others i (cnt n l) == 0
theorem alone_iff {l : List Rf} {n i : Nat} : aloneB l n i = true ↔ ∀ k, edge l n k i = true → k = i := by
  unfold aloneB others
  rw [beq_iff_eq, List.length_eq_zero_iff, List.filter_eq_nil_iff]
  constructor
  · intro h k hk
    obtain ⟨r, hr, rfl, rfl⟩ := edge_iff.1 hk
    have := h r hr
    simpa using this
  · intro h r hr
    simp only [Bool.and_eq_true, beq_iff_eq, Bool.not_eq_true', beq_eq_false_iff_ne, ne_eq, not_and, Decidable.not_not]
    rintro rfl
    exact h r.fr (edge_iff.2 ⟨r, hr, rfl, rfl⟩)
def aloneM (l : List Rf) (n : Nat) : List Nat := (List.range n).filter fun i => aloneB l n i
/-- The error that all calls look at ahead of all else. -/
def lookE (len : Nat) (n : Int) (asked : List Int) : Int := if 65536 < len then 2 else if n < 0 ∨ 1000 < n then 1 else if asked.all (fun x => isT x n.toNat) then 0 else 1
end Go.Proofs.Ytjgcbobalmmjkaa
