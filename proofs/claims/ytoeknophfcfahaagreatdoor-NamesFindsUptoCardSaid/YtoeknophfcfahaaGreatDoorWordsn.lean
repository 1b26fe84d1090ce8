/- Words of the document's answer for layer 2. -/
import Derived.Test.YtoeknophfcfahaaGreatDoorWiden
import Derived.Deep.RegionLaw
import Derived.Deep.AppendLies
namespace Go.Proofs.YtoeknophfcfahaaGreatDoor
open Go.RowKit Go.Maps

/-- The words from place i on, one having begun at 'from'. -/
def wrds (s : ByteArray) : Nat → Nat → Nat → List (Nat × Nat)
  | 0, _, _ => []
  | fuel + 1, i, b =>
    if h : i < s.size then (if s[i] = 32 then (if b < i then [(b, i)] else []) ++ wrds s fuel (i + 1) (i + 1) else wrds s fuel (i + 1) b)
    else (if b < i then [(b, i)] else [])
def words (s : ByteArray) : List (Nat × Nat) := wrds s (s.size + 1) 0 0
def wrdV (s : ByteArray) (y : Nat × Nat) : List Value := [.string (s.extract y.1 y.2), .int .i64 y.1, .int .i64 (wide (s.extract y.1 y.2))]
def wrdsV (s : ByteArray) (l : List (Nat × Nat)) : List Value := l.flatMap (wrdV s)
theorem wrdsV_len (s : ByteArray) (l : List (Nat × Nat)) : (wrdsV s l).length = l.length * 3 := by
  induction l with
  | nil => rfl
  | cons a l ih => simp [wrdsV, wrdV] at ih ⊢; omega
theorem wrdsV_snoc (s : ByteArray) (l : List (Nat × Nat)) (y : Nat × Nat) : wrdsV s (l ++ [y]) = wrdsV s l ++ wrdV s y := by simp [wrdsV]
theorem wrdV_one (s : ByteArray) (y : Nat × Nat) : ∀ u ∈ wrdV s y, u.oneCell' = true := by
  intro u hu; simp [wrdV] at hu; rcases hu with rfl | rfl | rfl <;> rfl
theorem wrdsV_get (s : ByteArray) : ∀ (l : List (Nat × Nat)) (i : Nat) (y : Nat × Nat), l[i]? = some y →
    (wrdsV s l)[i * 3]? = some (.string (s.extract y.1 y.2)) ∧ (wrdsV s l)[i * 3 + 1]? = some (.int .i64 y.1) ∧ (wrdsV s l)[i * 3 + 2]? = some (.int .i64 (wide (s.extract y.1 y.2)))
  | [], i, y, h => by simp at h
  | a :: l, 0, y, h => by simp at h; subst h; simp [wrdsV, wrdV]
  | a :: l, i + 1, y, h => by
    have ih := wrdsV_get s l i y (by simpa using h)
    have e : wrdsV s (a :: l) = wrdV s a ++ wrdsV s l := by simp [wrdsV]
    have hl : (wrdV s a).length = 3 := rfl
    rw [e, List.getElem?_append_right (by omega), List.getElem?_append_right (by omega), List.getElem?_append_right (by omega), hl, show (i + 1) * 3 - 3 = i * 3 by omega, show (i + 1) * 3 + 1 - 3 = i * 3 + 1 by omega, show (i + 1) * 3 + 2 - 3 = i * 3 + 2 by omega]
    exact ih
theorem wrds_len (s : ByteArray) : ∀ (fuel i b : Nat), b ≤ i → i ≤ s.size + 1 → (wrds s fuel i b).length + b ≤ s.size + 1
  | 0, i, b, h, h2 => by simp [wrds]; omega
  | fuel + 1, i, b, h, h2 => by
    by_cases hi : i < s.size
    · by_cases hsp : s[i] = 32
      · have ih := wrds_len s fuel (i + 1) (i + 1) (by omega) (by omega)
        by_cases hb : b < i
        · simp [wrds, hi, hsp, hb]; omega
        · simp [wrds, hi, hsp, hb]; omega
      · have ih := wrds_len s fuel (i + 1) b (by omega) (by omega)
        simp [wrds, hi, hsp]; omega
    · by_cases hb : b < i
      · simp [wrds, hi, hb]; omega
      · simp [wrds, hi, hb]; omega
theorem words_len (s : ByteArray) : (words s).length ≤ s.size + 1 := wrds_len s _ 0 0 (by omega) (by omega)
theorem wrds_part {s : ByteArray} {k : Nat} (h : k = s.size ∨ ∃ h : k < s.size, s[k] = 32) (f d : Nat) (hf : k = s.size → f = 0) : wrds s (f + 1) k d = (if d < k then [(d, k)] else []) ++ wrds s f (k + 1) (k + 1) := by
  rcases h with h | ⟨h, h2⟩
  · subst h
    obtain rfl : f = 0 := hf rfl
    simp [wrds]
  · simp [wrds, h, h2]
theorem wrds_more {s : ByteArray} {k : Nat} (h : k < s.size) (h2 : ¬ s[k] = 32) (f d : Nat) : wrds s (f + 1) k d = wrds s f (k + 1) d := by
  simp [wrds, h, h2]
theorem size_after {w wr w2 : World} (hB : Below w.heap.size w wr) (hb : Below wr.drew.heap.size wr.drew w2) (o : Obj) : w.heap.size ≤ (w2.alloc o).heap.size := by
  have h1 := hb.size
  have h2 := hB.size
  have h3 : wr.drew.heap.size = wr.heap.size := rfl
  simp
  omega
end Go.Proofs.YtoeknophfcfahaaGreatDoor
