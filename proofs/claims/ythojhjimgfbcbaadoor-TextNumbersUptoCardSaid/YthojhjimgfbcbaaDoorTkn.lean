/- Numbers in the order of texts, over the pieces. Plain mathematics. -/
import Derived.Test.YthojhjimgfbcbaaDoorTkf
import Derived.Test.YthojhjimgfbcbaaDoorTot
namespace Go.Proofs.YthojhjimgfbcbaaDoor
open Go
set_option linter.unusedVariables false

theorem cmpL_app {α : Type} (f : α → α → Int) : ∀ (a b x y : List α), a.length = b.length → cmpL f (a ++ x) (b ++ y) = if cmpL f a b ≠ 0 then cmpL f a b else cmpL f x y
  | [], [], x, y, _ => by simp [cmpL]
  | [], _ :: _, _, _, h => by simp at h
  | _ :: _, [], _, _, h => by simp at h
  | p :: a, q :: b, x, y, h => by
    have ih := cmpL_app f a b x y (by simpa using h)
    have e1 : ∀ l m, cmpL f (p :: l) (q :: m) = if f p q = 0 then cmpL f l m else f p q := fun _ _ => rfl
    rw [List.cons_append, List.cons_append]
    by_cases e : f p q = 0
    · have e2 : ∀ l m, cmpL f (p :: l) (q :: m) = cmpL f l m := fun l m => by rw [e1, if_pos e]
      rw [e2, e2, ih]
    · have e2 : ∀ l m, cmpL f (p :: l) (q :: m) = f p q := fun l m => by rw [e1, if_neg e]
      rw [e2, e2, if_pos e]
/-- The digits of a number. -/
def dl (n : Nat) : List Nat := if n < 10 then [48 + n] else dl (n / 10) ++ [48 + n % 10]
/-- .. without noughts ahead. -/
def sd (n : Nat) : List Nat := if n = 0 then [] else sd (n / 10) ++ [48 + n % 10]
def b8 (l : List Nat) : List UInt8 := l.map fun k => k.toUInt8
theorem sd_pos (n : Nat) (h : n ≠ 0) : sd n = sd (n / 10) ++ [48 + n % 10] := by rw [sd, if_neg h]
theorem sd_zero : sd 0 = [] := by rw [sd, if_pos rfl]
theorem dl_len : ∀ (j n : Nat), n < 10 ^ (j + 1) → (dl n).length ≤ j + 1
  | 0, n, h => by rw [dl, if_pos (by simpa using h)]; simp
  | j + 1, n, h => by
    rw [dl]
    split
    · simp
    · have h2 : n / 10 < 10 ^ (j + 1) := by
        rw [Nat.div_lt_iff_lt_mul (by omega)]
        rw [Nat.pow_succ] at h
        omega
      have := dl_len j (n / 10) h2
      simp
      omega
theorem cmpL_self {α : Type} {f : α → α → Int} (h : Ord3 f) (l : List α) : cmpL f l l = 0 := (cmpL_ord h).self l
theorem byteCmp_lt (a b : Nat) (h : b < a) (ha : a < 256) : byteCmp a.toUInt8 b.toUInt8 = 1 := by
  unfold byteCmp sgn
  rw [toNat_toU8 _ ha, toNat_toU8 _ (by omega), if_neg (by omega), if_pos (by omega)]
/-- The greater number has more digits, or as many, and greater ones. -/
theorem sd_lt : ∀ (k m n : Nat), m ≤ k → n < m → (sd n).length < (sd m).length ∨ ((sd n).length = (sd m).length ∧ cmpL byteCmp (b8 (sd m)) (b8 (sd n)) = 1)
  | 0, m, n, hk, h => by omega
  | k + 1, m, n, hk, h => by
    rw [sd_pos m (by omega)]
    by_cases h0 : n = 0
    · subst h0; left; rw [sd_zero]; simp
    · rw [sd_pos n h0]
      by_cases hq : n / 10 < m / 10
      · rcases sd_lt k (m / 10) (n / 10) (by omega) hq with h1 | ⟨h1, h2⟩
        · left; simp; omega
        · right
          refine ⟨by simp; omega, ?_⟩
          unfold b8 at *
          rw [List.map_append, List.map_append, cmpL_app _ _ _ _ _ (by simp; omega), h2]
          simp
      · have hq2 : n / 10 = m / 10 := by omega
        right
        refine ⟨by rw [hq2]; simp, ?_⟩
        unfold b8
        rw [hq2, List.map_append, List.map_append, cmpL_app _ _ _ _ _ rfl, cmpL_self byteCmp_ord]
        have hb := byteCmp_lt (48 + m % 10) (48 + n % 10) (by omega) (by omega)
        rw [if_neg (by simp)]
        show (if byteCmp (48 + m % 10).toUInt8 (48 + n % 10).toUInt8 = 0 then _ else byteCmp (48 + m % 10).toUInt8 (48 + n % 10).toUInt8) = 1
        rw [hb]
        rfl
theorem enc_digit (k : Nat) (h : k < 58) : Lib.encodeRune k = [k.toUInt8] := by
  unfold Lib.encodeRune
  rw [Lib.encodeRuneZ_one (by omega) (by omega)]
  rfl
/-- The digits' characters. -/
def chD (l : List Nat) : List Ch := l.map fun k => (0, k, 1)
theorem encD (k : Nat) (h : k < 58) : (Utf8.encode (k : Int)).data.toList = [k.toUInt8] := by rw [← enc_rune]; exact enc_digit k h
theorem digStep_nought (d : ByteArray) (h : d.size = 0) (p n : Nat) : digStep d (p, 48, n) = d := by
  unfold digStep
  rw [emptyB]
  simp [h]
theorem digStep_more (d : ByteArray) (c : Ch) (h : 0 < d.size ∨ c.2.1 ≠ 48) : digStep d c = d ++ Utf8.encode c.2.1 := by
  unfold digStep
  rw [emptyB]
  have : (decide (0 < d.size) || (c.2.1 : Int) != 48) = true := by
    rcases h with h | h
    · simp [h]
    · have : ((c.2.1 : Int) != 48) = true := by simp; omega
      simp [this]
  rw [if_pos this]
theorem sd_ne (n : Nat) (h : n ≠ 0) : sd n ≠ [] := by rw [sd_pos n h]; simp
theorem b8_len (l : List Nat) : (b8 l).length = l.length := by unfold b8; simp
theorem run_dl : ∀ (k n : Nat) (l : List Ch), n ≤ k → l.map (·.2.1) = dl n → (l.foldl digStep ByteArray.empty).data.toList = b8 (sd n)
  | k, n, l, hk, hl => by
    by_cases h : n < 10
    · rw [dl, if_pos h] at hl
      obtain ⟨c, rfl⟩ : ∃ c, l = [c] := by
        cases l with
        | nil => simp at hl
        | cons c l => cases l with
          | nil => exact ⟨c, rfl⟩
          | cons d l => simp at hl
      simp at hl
      simp only [List.foldl_cons, List.foldl_nil]
      by_cases h0 : n = 0
      · subst h0
        obtain ⟨p, r, m⟩ := c
        simp only at hl
        subst hl
        rw [digStep_nought _ rfl, sd_zero]
        rfl
      · rw [digStep_more _ _ (.inr (by omega)), dataApp, hl, encD _ (by omega), sd_pos n h0, show n / 10 = 0 by omega, sd_zero, show n % 10 = n by omega]
        rfl
    · rw [dl, if_neg h] at hl
      obtain ⟨l1, c, rfl⟩ : ∃ l1 c, l = l1 ++ [c] := by
        rcases List.eq_nil_or_concat l with rfl | ⟨i, y, h0⟩
        · simp at hl
        · exact ⟨i, y, by rw [h0, List.concat_eq_append]⟩
      rw [List.map_append, List.map_singleton] at hl
      obtain ⟨h1, h2⟩ := List.append_inj' hl rfl
      obtain ⟨k, rfl⟩ : ∃ k', k = k' + 1 := ⟨k - 1, by omega⟩
      have ih := run_dl k (n / 10) l1 (by omega) h1
      simp at h2
      have hs : 0 < (l1.foldl digStep ByteArray.empty).size := by
        have h3 : (l1.foldl digStep ByteArray.empty).size = (b8 (sd (n / 10))).length := by rw [← ih, ← Lib.size_eq]
        rw [h3, b8_len]
        exact List.length_pos_iff.2 (sd_ne _ (by omega))
      rw [List.foldl_append, List.foldl_cons, List.foldl_nil, digStep_more _ _ (.inl hs), dataApp, ih, h2, encD _ (by omega), sd_pos n (by omega)]
      unfold b8
      rw [List.map_append]
      rfl
  termination_by k => k
theorem run_noughts : ∀ (l : List Ch) (m : List Ch), (∀ c ∈ l, c.2.1 = 48) → (l ++ m).foldl digStep ByteArray.empty = m.foldl digStep ByteArray.empty
  | [], m, _ => rfl
  | c :: l, m, h => by
    have h1 := h c (by simp)
    obtain ⟨p, r, n⟩ := c
    simp only at h1
    subst h1
    rw [List.cons_append, List.foldl_cons, digStep_nought _ rfl]
    exact run_noughts l m fun c hc => h c (by simp [hc])

/-! ### the elements of three texts, one behind the other -/
theorem runD_all : ∀ (D T : List Ch) (d : ByteArray), (∀ c ∈ D, isDig c = true) → (∀ c, T.head? = some c → isDig c = false) → runD (D ++ T) d = (D.foldl digStep d, T)
  | [], [], d, _, _ => rfl
  | [], c :: T, d, _, h => by
    have := h c rfl
    simp [runD, this]
  | c :: D, T, d, h1, h2 => by
    have hc := h1 c (by simp)
    simp only [List.cons_append, runD, hc, if_true, List.foldl_cons]
    exact runD_all D T _ (fun x hx => h1 x (by simp [hx])) h2
theorem runD_left : ∀ (A B : List Ch) (d : ByteArray), A ≠ [] → (∀ c, A.getLast? = some c → isDig c = false) →
    runD (A ++ B) d = ((runD A d).1, (runD A d).2 ++ B) ∧ (runD A d).2.getLast? = A.getLast?
  | [], B, d, h, _ => absurd rfl h
  | c :: A, B, d, _, h => by
    cases hc : isDig c
    · simp [runD, hc]
    · have hA : A ≠ [] := by
        intro e
        subst e
        have := h c rfl
        rw [hc] at this
        cases this
      have e : (c :: A).getLast? = A.getLast? := by
        cases A with
        | nil => exact absurd rfl hA
        | cons a l => rw [List.getLast?_cons_cons]
      have ih := runD_left A B (digStep d c) hA (fun x hx => h x (by rw [e]; exact hx))
      simp only [List.cons_append, runD, hc, if_true]
      exact ⟨ih.1, by rw [ih.2, e]⟩
theorem runD_rest (c : Ch) (l : List Ch) (d : ByteArray) (h : isDig c = true) : (runD (c :: l) d).2.length ≤ l.length := by simp only [runD, h, if_true]; exact (runD_size _ _).2
theorem elemsF_fuel : ∀ (f g : Nat) (l : List Ch), l.length < f → l.length < g → elemsF f l = elemsF g l
  | 0, _, _, h, _ => by omega
  | _, 0, _, _, h => by omega
  | f + 1, g + 1, [], _, _ => rfl
  | f + 1, g + 1, c :: l, hf, hg => by
    simp only [List.length_cons] at hf hg
    simp only [elemsF]
    cases hd : isDig c
    · simp only [Bool.false_eq_true, if_false]
      rw [elemsF_fuel f g l (by omega) (by omega)]
    · have := runD_rest c l ByteArray.empty hd
      simp only [if_true]
      rw [elemsF_fuel f g _ (by omega) (by omega)]
theorem elemsF_app : ∀ (f : Nat) (A B : List Ch), (∀ c, A.getLast? = some c → isDig c = false) → (A ++ B).length < f → elemsF f (A ++ B) = elemsF f A ++ elemsF f B
  | 0, _, _, _, h => by omega
  | f + 1, [], B, _, _ => by simp [elemsF]
  | f + 1, c :: A, B, h, hf => by
    simp only [List.cons_append, List.length_cons, List.length_append] at hf
    have hB : elemsF (f + 1) B = elemsF f B := elemsF_fuel _ _ _ (by omega) (by omega)
    rw [hB]
    simp only [List.cons_append, elemsF]
    cases hd : isDig c
    · have hl : ∀ x, A.getLast? = some x → isDig x = false := by
        intro x hx
        apply h x
        cases A with
        | nil => simp at hx
        | cons a l => rw [List.getLast?_cons_cons]; exact hx
      simp only [Bool.false_eq_true, if_false]
      rw [elemsF_app f A B hl (by rw [List.length_append]; omega)]
      split
      · rfl
      · rw [List.append_assoc]
    · have hr := runD_left (c :: A) B ByteArray.empty (by simp) h
      have hs := runD_rest c A ByteArray.empty hd
      rw [List.cons_append] at hr
      simp only [if_true]
      rw [hr.1]
      simp only
      rw [elemsF_app f _ B (fun x hx => h x (by rw [← hr.2]; exact hx)) (by rw [List.length_append]; omega)]
      rfl
theorem runD_runes : ∀ (l m : List Ch) (d : ByteArray), l.map (·.2.1) = m.map (·.2.1) → (runD l d).1 = (runD m d).1 ∧ (runD l d).2.map (·.2.1) = (runD m d).2.map (·.2.1)
  | [], [], d, _ => ⟨rfl, rfl⟩
  | [], _ :: _, d, h => by simp at h
  | _ :: _, [], d, h => by simp at h
  | a :: l, b :: m, d, h => by
    simp only [List.map_cons, List.cons.injEq] at h
    have e1 : isDig a = isDig b := by unfold isDig; rw [h.1]
    have e2 : digStep d a = digStep d b := by unfold digStep; rw [h.1]
    simp only [runD]
    rw [e1, e2]
    split
    · exact runD_runes l m _ h.2
    · exact ⟨rfl, by simp [h.1, h.2]⟩
theorem elemsF_runes : ∀ (f : Nat) (l m : List Ch), l.map (·.2.1) = m.map (·.2.1) → elemsF f l = elemsF f m
  | 0, _, _, _ => rfl
  | f + 1, [], [], _ => rfl
  | f + 1, [], _ :: _, h => by simp at h
  | f + 1, _ :: _, [], h => by simp at h
  | f + 1, a :: l, b :: m, h => by
    have hr := runD_runes (a :: l) (b :: m) ByteArray.empty h
    simp only [List.map_cons, List.cons.injEq] at h
    have e1 : isDig a = isDig b := by unfold isDig; rw [h.1]
    simp only [elemsF]
    rw [e1, h.1, hr.1, elemsF_runes f _ _ hr.2, elemsF_runes f l m h.2]
theorem chOf_runes : ∀ (l : List Tk) (p : Nat), (chOf p l).map (·.2.1) = l.map Tk.rn
  | [], _ => rfl
  | t :: l, p => by simp only [chOf, List.map_cons]; rw [chOf_runes l]
/-- What stands ahead, a run of digits, what stands behind. -/
theorem elems_three (H D T : List Ch) (hH : ∀ c, H.getLast? = some c → isDig c = false) (hD : ∀ c ∈ D, isDig c = true) (hne : D ≠ []) (hT : ∀ c, T.head? = some c → isDig c = false) (f : Nat) (hf : (H ++ (D ++ T)).length < f) :
    elemsF f (H ++ (D ++ T)) = elemsF f H ++ (⟨1, 0, D.foldl digStep ByteArray.empty⟩ :: elemsF f T) := by
  rw [elemsF_app f H (D ++ T) hH hf]
  congr 1
  obtain ⟨f, rfl⟩ : ∃ f', f = f' + 1 := ⟨f - 1, by omega⟩
  cases D with
  | nil => exact absurd rfl hne
  | cons c D =>
    have hc := hD c (by simp)
    have hr := runD_all (c :: D) T ByteArray.empty hD hT
    rw [List.cons_append] at hr ⊢
    simp only [elemsF, hc, if_true]
    rw [hr]
    simp only [List.cons_append, List.length_append, List.length_cons] at hf
    rw [elemsF_fuel f (f + 1) T (by omega) (by omega)]
end Go.Proofs.YthojhjimgfbcbaaDoor
