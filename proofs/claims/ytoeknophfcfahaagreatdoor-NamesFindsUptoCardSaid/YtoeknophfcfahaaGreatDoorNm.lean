/- Plain model of layer 7: how far two lists of characters are apart, and that it is a distance. Nothing of the program is in it. -/
import Derived.RowKit
namespace Go.Proofs.YtoeknophfcfahaaGreatDoor
open Go Go.RowKit
set_option linter.unusedVariables false

/-- One step for two characters that are not the same. -/
def dif (a b : Int) : Nat := if a = b then 0 else 1
theorem dif_self (a : Int) : dif a a = 0 := by simp [dif]
theorem dif_comm (a b : Int) : dif a b = dif b a := by
  unfold dif
  by_cases h : a = b
  · rw [if_pos h, if_pos h.symm]
  · rw [if_neg h, if_neg (fun e => h e.symm)]
theorem dif_le (a b : Int) : dif a b ≤ 1 := by unfold dif; split <;> omega
theorem dif_tri (a b c : Int) : dif a c ≤ dif a b + dif b c := by
  unfold dif
  by_cases h1 : a = b
  · subst h1; simp
  · rw [if_neg h1]
    split <;> omega
theorem dif_zero {a b : Int} (h : dif a b = 0) : a = b := by
  unfold dif at h
  split at h
  · assumption
  · cases h
/-- How many steps lead from one list to another at least. -/
def lev : List Int → List Int → Nat
  | [], y => y.length
  | x, [] => x.length
  | a :: x, b :: y => min (lev x y + dif a b) (min (lev x (b :: y) + 1) (lev (a :: x) y + 1))
  termination_by x y => x.length + y.length
theorem lev_nil (y : List Int) : lev [] y = y.length := by unfold lev; rfl
theorem lev_nil' (x : List Int) : lev x [] = x.length := by
  cases x with
  | nil => unfold lev; rfl
  | cons a x => unfold lev; rfl
theorem lev_cons (a b : Int) (x y : List Int) : lev (a :: x) (b :: y) = min (lev x y + dif a b) (min (lev x (b :: y) + 1) (lev (a :: x) y + 1)) := by
  conv => lhs; unfold lev
theorem lev_comm : ∀ (n : Nat) (x y : List Int), x.length + y.length ≤ n → lev x y = lev y x
  | n, [], y, h => by rw [lev_nil, lev_nil']
  | n, a :: x, [], h => by rw [lev_nil, lev_nil']
  | 0, a :: x, b :: y, h => by simp at h
  | n + 1, a :: x, b :: y, h => by
    simp only [List.length_cons] at h
    rw [lev_cons, lev_cons, lev_comm n x y (by omega), lev_comm n x (b :: y) (by simp only [List.length_cons]; omega), lev_comm n (a :: x) y (by simp only [List.length_cons]; omega), dif_comm a b, Nat.min_comm (lev (b :: y) x + 1)]
theorem lev_sym (x y : List Int) : lev x y = lev y x := lev_comm _ x y (Nat.le_refl _)
theorem lev_le_sub (a b : Int) (x y : List Int) : lev (a :: x) (b :: y) ≤ lev x y + dif a b := by rw [lev_cons]; omega
theorem lev_le_del (a : Int) (x y : List Int) : lev (a :: x) y ≤ lev x y + 1 := by
  cases y with
  | nil => rw [lev_nil', lev_nil']; simp
  | cons b y => rw [lev_cons]; omega
theorem lev_le_ins (b : Int) (x y : List Int) : lev x (b :: y) ≤ lev x y + 1 := by
  rw [lev_sym x (b :: y), lev_sym x y]
  exact lev_le_del b y x
/-- At least by how many they differ. -/
theorem lev_low : ∀ (n : Nat) (x y : List Int), x.length + y.length ≤ n → x.length ≤ lev x y + y.length
  | n, [], y, h => by simp
  | n, a :: x, [], h => by rw [lev_nil']; simp
  | 0, a :: x, b :: y, h => by simp at h
  | n + 1, a :: x, b :: y, h => by
    simp only [List.length_cons] at h ⊢
    have h1 := lev_low n x y (by omega)
    have h2 := lev_low n x (b :: y) (by simp only [List.length_cons]; omega)
    have h3 := lev_low n (a :: x) y (by simp only [List.length_cons]; omega)
    simp only [List.length_cons] at h2 h3
    rw [lev_cons]
    omega
theorem lev_ge (x y : List Int) : x.length ≤ lev x y + y.length := lev_low _ x y (Nat.le_refl _)
theorem lev_ge' (x y : List Int) : y.length ≤ lev x y + x.length := by rw [lev_sym]; exact lev_ge y x
/-- At most as many as the longer one has. -/
theorem lev_max : ∀ (x y : List Int), lev x y ≤ max x.length y.length
  | [], y => by rw [lev_nil]; omega
  | a :: x, [] => by rw [lev_nil']; omega
  | a :: x, b :: y => by
    have h1 := lev_max x y
    have h2 := lev_le_sub a b x y
    have h3 := dif_le a b
    simp only [List.length_cons]
    omega
theorem lev_self : ∀ (x : List Int), lev x x = 0
  | [] => by rw [lev_nil]; rfl
  | a :: x => by
    have h1 := lev_le_sub a a x x
    rw [lev_self x, dif_self] at h1
    omega
theorem lev_zero : ∀ (n : Nat) (x y : List Int), x.length + y.length ≤ n → lev x y = 0 → x = y
  | n, [], y, h, h0 => by rw [lev_nil] at h0; exact (List.eq_nil_of_length_eq_zero h0).symm
  | n, a :: x, [], h, h0 => by rw [lev_nil'] at h0; simp at h0
  | 0, a :: x, b :: y, h, h0 => by simp at h
  | n + 1, a :: x, b :: y, h, h0 => by
    simp only [List.length_cons] at h
    rw [lev_cons] at h0
    have h1 : lev x y = 0 := by omega
    have h2 : dif a b = 0 := by omega
    rw [lev_zero n x y (by omega) h1, dif_zero h2]
theorem lev_eq (x y : List Int) : lev x y = 0 ↔ x = y := ⟨lev_zero _ x y (Nat.le_refl _), fun h => by subst h; exact lev_self x⟩
/-- No way round is shorter. -/
theorem lev_tri' : ∀ (n : Nat) (x y z : List Int), x.length + y.length + z.length ≤ n → lev x z ≤ lev x y + lev y z
  | n, [], y, z, h => by
    have := lev_ge' y z
    rw [lev_nil, lev_nil]; omega
  | n, a :: x, [], z, h => by
    have := lev_max (a :: x) z
    rw [lev_nil, lev_nil']; omega
  | n, a :: x, b :: y, [], h => by
    have := lev_ge (a :: x) (b :: y)
    rw [lev_nil', lev_nil']; omega
  | 0, a :: x, b :: y, c :: z, h => by simp at h
  | n + 1, a :: x, b :: y, c :: z, h => by
    simp only [List.length_cons] at h
    have i1 := lev_tri' n x (b :: y) (c :: z) (by simp only [List.length_cons]; omega)
    have i2 := lev_tri' n (a :: x) (b :: y) z (by simp only [List.length_cons]; omega)
    have i3 := lev_tri' n (a :: x) y (c :: z) (by simp only [List.length_cons]; omega)
    have i4 := lev_tri' n (a :: x) y z (by simp only [List.length_cons]; omega)
    have i5 := lev_tri' n x y (c :: z) (by simp only [List.length_cons]; omega)
    have i6 := lev_tri' n x y z (by omega)
    have d1 := lev_le_del a x (c :: z)
    have d2 := lev_le_ins c (a :: x) z
    have d3 := lev_le_sub a c x z
    have d4 := dif_tri a b c
    have e1 := lev_cons a b x y
    have e2 := lev_cons b c y z
    omega
theorem lev_tri (x y z : List Int) : lev x z ≤ lev x y + lev y z := lev_tri' _ x y z (Nat.le_refl _)

/-- The table: so many of the first characters of both. -/
def tab (x y : List Int) (i k : Nat) : Nat := lev (x.take i).reverse (y.take k).reverse
theorem take_rev {x : List Int} {i : Nat} (h : i < x.length) : (x.take (i + 1)).reverse = x[i] :: (x.take i).reverse := by
  rw [List.take_succ_eq_append_getElem h, List.reverse_append]; rfl
theorem tab_top (x y : List Int) {k : Nat} (h : k ≤ y.length) : tab x y 0 k = k := by
  unfold tab
  rw [List.take_zero, List.reverse_nil, lev_nil]; simp; omega
theorem tab_side (x y : List Int) {i : Nat} (h : i ≤ x.length) : tab x y i 0 = i := by
  unfold tab
  rw [List.take_zero, List.reverse_nil, lev_nil']; simp; omega
theorem tab_step {x y : List Int} {i k : Nat} (hi : i < x.length) (hk : k < y.length) :
    tab x y (i + 1) (k + 1) = min (tab x y i k + dif x[i] y[k]) (min (tab x y i (k + 1) + 1) (tab x y (i + 1) k + 1)) := by
  unfold tab
  rw [take_rev hi, take_rev hk, lev_cons]
theorem tab_all (x y : List Int) : tab x y x.length y.length = lev x.reverse y.reverse := by
  unfold tab
  rw [List.take_length, List.take_length]
end Go.Proofs.YtoeknophfcfahaaGreatDoor
