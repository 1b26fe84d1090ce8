/- Layer 12, plain: columns. -/
import Derived.Test.YtadecjjbpoaooaaUa
namespace Go.Proofs.Ytadecjjbpoaooaa.Tb
set_option linter.unusedVariables false
set_option linter.unusedSimpArgs false
/-- The list of a function's values. -/
def fnL (n : Nat) (g : Nat → Int) : List Int := (List.range n).map g
theorem fnL_len (n : Nat) (g : Nat → Int) : (fnL n g).length = n := by simp [fnL]
theorem fnL_at {n : Nat} {g : Nat → Int} {i : Nat} (h : i < (fnL n g).length) : (fnL n g)[i] = g i := by simp [fnL]
theorem fnL_at? {n : Nat} {g : Nat → Int} {i : Nat} (h : i < n) : (fnL n g)[i]? = some (g i) := by simp [fnL, h]
theorem fnL_set (n : Nat) (g : Nat → Int) (i : Nat) (v : Int) : (fnL n g).set i v = fnL n (fun j => if j = i then v else g j) := by
  apply List.ext_getElem
  · simp [fnL]
  · intro j h1 h2
    simp only [fnL, List.getElem_set, List.getElem_map, List.getElem_range]
    by_cases e : i = j
    · subst e; simp
    · rw [if_neg e, if_neg (fun h => e h.symm)]
theorem fnL_eq {n : Nat} {g h : Nat → Int} (e : ∀ j, j < n → g j = h j) : fnL n g = fnL n h := by
  apply List.map_congr_left
  intro j hj
  exact e j (List.mem_range.1 hj)
theorem fnL_self (l : List Int) : fnL l.length (fun j => l.getD j 0) = l := by
  apply List.ext_getElem
  · simp [fnL]
  · intro j h1 h2
    simp [fnL, List.getD_eq_getElem?_getD, h2]
def sumZ : List Int → Int
  | [] => 0
  | x :: l => x + sumZ l
theorem sumZ_app (a b : List Int) : sumZ (a ++ b) = sumZ a + sumZ b := by
  induction a with
  | nil => simp [sumZ]
  | cons x a ih => simp only [List.cons_append, sumZ, ih]; omega
def one (w : Int) : Int := if w = 0 then 1 else w
/-- How many free ones stand ahead of a place. -/
def rank (ws : List Int) (i : Nat) : Nat := ((ws.take i).filter (· == 0)).length
def freeN (ws : List Int) : Nat := rank ws ws.length
def wAt (ws : List Int) (i : Nat) : Int := ws.getD i 0
theorem wAt_at {ws : List Int} {i : Nat} (h : i < ws.length) : wAt ws i = ws[i] := by simp [wAt, List.getD_eq_getElem?_getD, h]
theorem rank_zero (ws : List Int) : rank ws 0 = 0 := by simp [rank]
theorem rank_free {ws : List Int} {i : Nat} (h : i < ws.length) (h0 : wAt ws i = 0) : rank ws (i + 1) = rank ws i + 1 := by
  rw [wAt_at h] at h0
  unfold rank
  rw [List.take_succ_eq_append_getElem h, List.filter_append]
  simp [h0]
theorem rank_fixed {ws : List Int} {i : Nat} (h : i < ws.length) (h0 : wAt ws i ≠ 0) : rank ws (i + 1) = rank ws i := by
  rw [wAt_at h] at h0
  unfold rank
  rw [List.take_succ_eq_append_getElem h, List.filter_append]
  simp [h0]
theorem rank_step (ws : List Int) (i : Nat) : rank ws i ≤ rank ws (i + 1) := by
  by_cases h : i < ws.length
  · by_cases h0 : wAt ws i = 0
    · rw [rank_free h h0]; omega
    · rw [rank_fixed h h0]; omega
  · unfold rank
    rw [List.take_of_length_le (by omega), List.take_of_length_le (by omega)]
    omega
theorem rank_mono (ws : List Int) {i j : Nat} (h : i ≤ j) : rank ws i ≤ rank ws j := by
  induction h with
  | refl => omega
  | step _ ih => exact Nat.le_trans ih (rank_step ws _)
theorem rank_le (ws : List Int) (i : Nat) : rank ws i ≤ i := by
  unfold rank
  refine Nat.le_trans (List.length_filter_le _ _) ?_
  rw [List.length_take]
  omega
theorem rank_lt {ws : List Int} {i : Nat} (h : i < ws.length) (h0 : wAt ws i = 0) : rank ws i < freeN ws := by
  have := rank_mono ws (show i + 1 ≤ ws.length by omega)
  rw [rank_free h h0] at this
  exact this
theorem rank_inj {ws : List Int} {i j : Nat} (hi : i < ws.length) (hj : j < ws.length) (h1 : wAt ws i = 0) (h2 : wAt ws j = 0) (h : i ≠ j) : rank ws i ≠ rank ws j := by
  rcases Nat.lt_or_gt_of_ne h with h3 | h3
  · have := rank_mono ws (show i + 1 ≤ j by omega)
    rw [rank_free hi h1] at this
    omega
  · have := rank_mono ws (show j + 1 ≤ i by omega)
    rw [rank_free hj h2] at this
    omega
/-- What the k-th of f free ones gets of c cells that are dealt out. -/
def give (f c k : Nat) : Nat := c / f + if k < c % f then 1 else 0
def dealG (ws : List Int) (f c : Nat) (i : Nat) : Int := if wAt ws i = 0 then 1 + give f c (rank ws i) else wAt ws i
def baseG (ws : List Int) (i : Nat) : Int := one (wAt ws i)
theorem deal_none (ws : List Int) (f : Nat) (i : Nat) (hf : 0 < f) : dealG ws f 0 i = baseG ws i := by
  unfold dealG baseG one
  split
  · simp [give]
  · rfl
theorem give_next {f t k : Nat} (hk : k < f) (j : Nat) (hj : j < f) : give f (f * t + k + 1) j = give f (f * t + k) j + if j = k then 1 else 0 := by
  unfold give
  have h0 : 0 < f := by omega
  have d1 : (f * t + k) / f = t := by rw [Nat.mul_add_div h0, Nat.div_eq_of_lt hk]; omega
  have m1 : (f * t + k) % f = k := by rw [Nat.mul_add_mod, Nat.mod_eq_of_lt hk]
  rw [d1, m1]
  by_cases h1 : k + 1 < f
  · have d2 : (f * t + k + 1) / f = t := by rw [Nat.add_assoc, Nat.mul_add_div h0, Nat.div_eq_of_lt h1]; omega
    have m2 : (f * t + k + 1) % f = k + 1 := by rw [Nat.add_assoc, Nat.mul_add_mod, Nat.mod_eq_of_lt h1]
    rw [d2, m2]
    split <;> split <;> split <;> omega
  · have e : f * t + k + 1 = f * (t + 1) := by rw [Nat.mul_add]; omega
    rw [e, Nat.mul_div_cancel_left _ h0, Nat.mul_mod_right]
    split <;> split <;> split <;> omega
/-- One cell more, to the one whose turn it is. -/
theorem deal_next {ws : List Int} {t i : Nat} (hi : i < ws.length) (h0 : wAt ws i = 0) : (fnL ws.length (dealG ws (freeN ws) (freeN ws * t + rank ws i))).set i (dealG ws (freeN ws) (freeN ws * t + rank ws i) i + 1) = fnL ws.length (dealG ws (freeN ws) (freeN ws * t + rank ws i + 1)) := by
  rw [fnL_set]
  refine fnL_eq fun j hj => ?_
  have hk := rank_lt hi h0
  by_cases e : j = i
  · subst e
    rw [if_pos rfl]
    unfold dealG
    rw [if_pos h0, if_pos h0, give_next hk _ hk, if_pos rfl]
    omega
  · rw [if_neg e]
    unfold dealG
    by_cases h1 : wAt ws j = 0
    · rw [if_pos h1, if_pos h1, give_next hk _ (rank_lt hj h1), if_neg (rank_inj hj hi h1 h0 e)]
      rfl
    · rw [if_neg h1, if_neg h1]
/-- What is left for those from the k-th on. -/
def leftN (f c k : Nat) : Nat := c - (k * (c / f) + min k (c % f))
theorem left_zero (f c : Nat) : leftN f c 0 = c := by simp [leftN]
theorem left_form {f c k : Nat} (hf : 0 < f) (hk : k ≤ f) : leftN f c k = (f - k) * (c / f) + (c % f - k) := by
  have h := Nat.div_add_mod c f
  have h2 : f * (c / f) = k * (c / f) + (f - k) * (c / f) := by rw [← Nat.add_mul]; congr 1; omega
  unfold leftN
  generalize c / f = q at *
  generalize c % f = r at *
  generalize (f - k) * q = a at *
  generalize k * q = b at *
  omega
theorem left_give {f c k : Nat} (hk : k < f) : (leftN f c k + (f - k) - 1) / (f - k) = give f c k := by
  rw [left_form (by omega) (by omega)]
  have hr : c % f < f := Nat.mod_lt _ (by omega)
  unfold give
  generalize hm : f - k = m
  have h0 : 0 < m := by omega
  rw [show m * (c / f) + (c % f - k) + m - 1 = m * (c / f) + ((c % f - k) + m - 1) by omega, Nat.mul_add_div h0]
  congr 1
  split
  · exact Nat.div_eq_of_lt_le (by omega) (by omega)
  · exact Nat.div_eq_of_lt (by omega)
theorem left_next {f c k : Nat} (hk : k < f) : leftN f c k - give f c k = leftN f c (k + 1) ∧ give f c k ≤ leftN f c k := by
  rw [left_form (by omega) (by omega), left_form (show 0 < f by omega) (by omega)]
  have e : (f - k) * (c / f) = c / f + (f - (k + 1)) * (c / f) := by
    rw [show f - k = 1 + (f - (k + 1)) by omega, Nat.add_mul, Nat.one_mul]
  unfold give
  split <;> omega
/-- The last of the widest ones among the first i. -/
def widF (l : List Int) : Nat → Nat
  | 0 => 0
  | i + 1 => if l.getD (widF l i) 0 ≤ l.getD i 0 then i else widF l i
def narrow1 (l : List Int) : List Int := l.set (widF l l.length) (l.getD (widF l l.length) 0 - 1)
def narrowN : Nat → List Int → List Int
  | 0, l => l
  | n + 1, l => narrowN n (narrow1 l)
theorem narrow1_len (l : List Int) : (narrow1 l).length = l.length := by simp [narrow1]
theorem widF_lt (l : List Int) : ∀ i, 0 < l.length → i ≤ l.length → widF l i < l.length
  | 0, h, _ => h
  | i + 1, h, hi => by
    unfold widF
    split
    · omega
    · exact widF_lt l i h (by omega)
theorem narrowN_snoc : ∀ (n : Nat) (l : List Int), narrowN (n + 1) l = narrow1 (narrowN n l)
  | 0, l => rfl
  | n + 1, l => by
    rw [narrowN, narrowN_snoc n (narrow1 l)]
    rfl
theorem narrowN_len : ∀ (n : Nat) (l : List Int), (narrowN n l).length = l.length
  | 0, l => rfl
  | n + 1, l => by rw [narrowN, narrowN_len n, narrow1_len]
theorem sumZ_set : ∀ (l : List Int) (i : Nat) (h : i < l.length) (v : Int), sumZ (l.set i v) = sumZ l - l[i] + v
  | [], i, h, _ => absurd h (by simp)
  | x :: l, 0, _, v => by simp only [List.set_cons_zero, sumZ, List.getElem_cons_zero]; omega
  | x :: l, i + 1, h, v => by
    have ih := sumZ_set l i (by simpa using h) v
    simp only [List.set_cons_succ, sumZ, List.getElem_cons_succ, ih]
    omega
theorem narrow1_sum (l : List Int) (h : 0 < l.length) : sumZ (narrow1 l) = sumZ l - 1 := by
  have hw := widF_lt l l.length h (Nat.le_refl _)
  unfold narrow1
  rw [sumZ_set l _ hw, List.getD_eq_getElem?_getD, List.getElem?_eq_getElem hw]
  simp only [Option.getD_some]
  omega
theorem narrowN_sum : ∀ (n : Nat) (l : List Int), 0 < l.length → sumZ (narrowN n l) = sumZ l - n
  | 0, l, _ => by simp [narrowN]
  | n + 1, l, h => by
    rw [narrowN, narrowN_sum n _ (by rw [narrow1_len]; exact h), narrow1_sum l h]
    omega
/-- The widths at a room. -/
def baseL (ws : List Int) : List Int := fnL ws.length (baseG ws)
def widthsM (ws : List Int) (room : Int) : List Int :=
  if room < sumZ (baseL ws) then narrowN (sumZ (baseL ws) - room).toNat (baseL ws) else fnL ws.length (dealG ws (freeN ws) (room - sumZ (baseL ws)).toNat)
def gapOf (n wide : Int) : Int := if wide - (n - 1) < n then 0 else 1
def roomOf (n wide : Int) : Int := if wide - (n - 1) < n then wide else wide - (n - 1)
def colsAt (gap : Int) : Int → List Int → List (Int × Int)
  | _, [] => []
  | a, w :: l => (a, w) :: colsAt gap (a + w + gap) l
def okW (w : Int) : Bool := decide (0 ≤ w ∧ w ≤ 200)
def colsE (ws : List Int) (wide : Int) : Int := if wide < 10 ∨ 200 < wide ∨ ws.length < 1 ∨ 8 < ws.length ∨ ws.any (fun w => !okW w) then 1 else 0
def colsM (ws : List Int) (wide : Int) : List (Int × Int) := colsAt (gapOf ws.length wide) 0 (widthsM ws (roomOf ws.length wide))
def colsL (ws : List Int) (wide : Int) : List (Int × Int) := if colsE ws wide = 0 then colsM ws wide else []
theorem colsAt_len (gap : Int) : ∀ (a : Int) (l : List Int), (colsAt gap a l).length = l.length
  | _, [] => rfl
  | a, w :: l => by simp [colsAt, colsAt_len gap _ l]
theorem colsAt_snoc (gap : Int) : ∀ (a : Int) (l : List Int) (w : Int), colsAt gap a (l ++ [w]) = colsAt gap a l ++ [(a + sumZ l + gap * l.length, w)]
  | a, [], w => by simp [colsAt, sumZ]
  | a, x :: l, w => by
    simp only [List.cons_append, colsAt, colsAt_snoc gap _ l w, sumZ, List.length_cons, List.cons.injEq, true_and, List.append_cancel_left_eq, Prod.mk.injEq, and_true]
    rw [show ((l.length + 1 : Nat) : Int) = (l.length : Int) + 1 by omega, Int.mul_add]
    omega
end Go.Proofs.Ytadecjjbpoaooaa.Tb
