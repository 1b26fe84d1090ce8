/- A style that is written, read, is that style; what is read may be written. Nothing of the program is in it. -/
import Derived.Test.YtceanagnkcejgaaGreatDoorTx
import Derived.Laws.BitsAllLaws
namespace Go.Proofs.YtceanagnkcejgaaGreatDoor
open Go Go.RowKit
set_option linter.unusedVariables false

theorem nofInt_i64 (a : Nat) (ha : a < 9223372036854775808) : (BitVec.ofInt 64 (a : Int)).toNat = a := by
  rw [BitVec.ofInt_natCast, BitVec.toNat_ofNat]; exact Nat.mod_eq_of_lt (by omega)
theorem nand (a b : Nat) (ha : a < 9223372036854775808) (hb : b < 9223372036854775808) : bits .and .i64 (a : Int) (b : Int) = ((a &&& b : Nat) : Int) := by
  have hx : a &&& b < 2 ^ 63 := Nat.and_lt_two_pow _ (by omega)
  show IntKind.i64.wrap ((BitVec.ofInt 64 (a : Int) &&& BitVec.ofInt 64 (b : Int)).toNat : Int) = _
  rw [BitVec.toNat_and, nofInt_i64 a ha, nofInt_i64 b hb, IntKind.wrap_i64]
  omega
theorem nor (a b : Nat) (ha : a < 9223372036854775808) (hb : b < 9223372036854775808) : bits .or .i64 (a : Int) (b : Int) = ((a ||| b : Nat) : Int) := by
  have hx : a ||| b < 2 ^ 63 := Nat.or_lt_two_pow (by omega) (by omega)
  show IntKind.i64.wrap ((BitVec.ofInt 64 (a : Int) ||| BitVec.ofInt 64 (b : Int)).toNat : Int) = _
  rw [BitVec.toNat_or, nofInt_i64 a ha, nofInt_i64 b hb, IntKind.wrap_i64]
  omega

/-- A change that may be. -/
def OkC (c : Chg) : Prop := ∃ m o : Nat, c.on = m ∧ c.off = o ∧ m < 128 ∧ o < 128 ∧ m &&& o = 0 ∧ -1 ≤ c.col ∧ c.col ≤ 15
theorem ownE_ok {c : Chg} : ownE c = 0 ↔ OkC c := by
  unfold ownE
  constructor
  · intro h
    split at h
    · cases h
    · split at h
      · cases h
      · rename_i h1 h2
        have h3 : 0 ≤ c.on ∧ c.on ≤ 127 ∧ 0 ≤ c.off ∧ c.off ≤ 127 ∧ bits .and .i64 c.on c.off = 0 := by
          refine ⟨?_, ?_, ?_, ?_, ?_⟩
          · exact Int.not_lt.1 fun h => h1 (.inl h)
          · exact Int.not_lt.1 fun h => h1 (.inr (.inr (.inl h)))
          · exact Int.not_lt.1 fun h => h1 (.inr (.inl h))
          · exact Int.not_lt.1 fun h => h1 (.inr (.inr (.inr (.inl h))))
          · exact Classical.not_not.1 fun h => h1 (.inr (.inr (.inr (.inr h))))
        obtain ⟨a1, a2, a3, a4, a5⟩ := h3
        refine ⟨c.on.toNat, c.off.toNat, by omega, by omega, by omega, by omega, ?_, by omega, by omega⟩
        have e1 : c.on = (c.on.toNat : Int) := by omega
        have e2 : c.off = (c.off.toNat : Int) := by omega
        rw [e1, e2, nand _ _ (by omega) (by omega)] at a5
        exact_mod_cast a5
  · rintro ⟨m, o, h1, h2, h3, h4, h5, h6, h7⟩
    rw [h1, h2, nand _ _ (by omega) (by omega), h5]
    rw [if_neg (by omega), if_neg (by omega)]
theorem nmsM_col {w : List UInt8} (h : w ≠ []) : w.takeWhile (fun c => !(c == 58)) ++ w.dropWhile (fun c => !(c == 58)) = w := List.takeWhile_append_dropWhile
theorem letter_ne {l : List UInt8} (h : nameB l = true) : ∀ c ∈ l, c ≠ 58 ∧ c ≠ 32 := by
  unfold nameB at h
  simp only [Bool.and_eq_true, List.all_eq_true] at h
  intro c hc
  have h2 := h.1.1 c hc
  unfold isL at h2
  simp only [Bool.and_eq_true, decide_eq_true_eq] at h2
  constructor
  · rintro rfl; exact absurd h2 (by decide)
  · rintro rfl; exact absurd h2 (by decide)
theorem name_ne {l : List UInt8} (h : nameB l = true) : l ≠ [] := by
  intro e; subst e; simp [nameB] at h
theorem drop_all {l r : List UInt8} (h : ∀ c ∈ l, c ≠ 58) : (l ++ r).dropWhile (fun c => !(c == 58)) = r.dropWhile (fun c => !(c == 58)) := by
  induction l with
  | nil => rfl
  | cons a l ih =>
    have ha : a ≠ 58 := h a (by simp)
    simp only [List.cons_append, List.dropWhile_cons]
    rw [if_pos (by simpa using ha)]
    exact ih (fun c hc => h c (by simp [hc]))
theorem take_all {l r : List UInt8} (h : ∀ c ∈ l, c ≠ 58) : (l ++ r).takeWhile (fun c => !(c == 58)) = l ++ r.takeWhile (fun c => !(c == 58)) := by
  induction l with
  | nil => rfl
  | cons a l ih =>
    have ha : a ≠ 58 := h a (by simp)
    simp only [List.cons_append, List.takeWhile_cons]
    rw [if_pos (by simpa using ha), ih (fun c hc => h c (by simp [hc]))]
theorem nms_text {n p : List UInt8} (hn : nameB n = true) (hp : p = [] ∨ nameB p = true) : nmsM (n ++ parT p) = some (n, p) := by
  have hl := fun c hc => (letter_ne hn c hc).1
  unfold nmsM parT
  rw [drop_all hl, take_all hl]
  by_cases e : p = []
  · subst e
    simp [hn]
  · have hp2 : nameB p = true := hp.resolve_left e
    simp [e, hn, hp2]

def joinW (l : List (List UInt8)) : List UInt8 := l.flatMap (32 :: ·)
def Wd (w : List UInt8) : Prop := w ≠ [] ∧ ∀ c ∈ w, c ≠ 32
theorem wsp_run (x r : List UInt8) : ∀ a, (∀ c ∈ x, c ≠ 32) → wsp a (x ++ r) = wsp (a ++ x) r := by
  induction x with
  | nil => intro a _; simp
  | cons c x ih =>
    intro a h
    have hc : c ≠ 32 := h c (by simp)
    simp only [List.cons_append, wsp, if_neg hc]
    rw [ih _ (fun d hd => h d (by simp [hd]))]
    simp
theorem wsp_join : ∀ (ws : List (List UInt8)) (a : List UInt8), a ≠ [] → (∀ w ∈ ws, Wd w) → wsp a (joinW ws) = a :: ws
  | [], a, ha, _ => by simp [joinW, wsp, ha]
  | w :: ws, a, ha, h => by
    have hw := h w (by simp)
    have e : joinW (w :: ws) = 32 :: (w ++ joinW ws) := by simp [joinW]
    rw [e]
    simp only [wsp, if_true, if_neg ha]
    rw [wsp_run _ _ _ hw.2, List.nil_append, wsp_join ws w hw.1 (fun x hx => h x (by simp [hx]))]
def bitsW (sg : UInt8) (n : Nat) : Nat → List (List UInt8)
  | 0 => []
  | k + 1 => bitsW sg n k ++ (if n.testBit k then [sg :: attrW.getD k []] else [])
theorem join_app (a b : List (List UInt8)) : joinW (a ++ b) = joinW a ++ joinW b := by simp [joinW]
theorem bitsT_join (sg : UInt8) (n : Nat) : ∀ k, bitsT sg n k = joinW (bitsW sg n k)
  | 0 => rfl
  | k + 1 => by
    simp only [bitsT, bitsW, join_app, bitsT_join sg n k, bitT]
    split <;> simp [joinW]
theorem attr_wd : ∀ k, k < 7 → ∀ c ∈ attrW.getD k [], c ≠ 32 := by decide
theorem bitsW_wd {sg : UInt8} (hs : sg ≠ 32) (n : Nat) : ∀ k, k ≤ 7 → ∀ w ∈ bitsW sg n k, Wd w
  | 0, _, w, h => by simp [bitsW] at h
  | k + 1, hk, w, h => by
    simp only [bitsW, List.mem_append] at h
    rcases h with h | h
    · exact bitsW_wd hs n k (by omega) w h
    · split at h
      · simp only [List.mem_singleton] at h
        subst h
        refine ⟨by simp, fun c hc => ?_⟩
        rcases List.mem_cons.1 hc with rfl | hc
        · exact hs
        · exact attr_wd k (by omega) c hc
      · cases h
def colWs (c : Int) : List (List UInt8) := if c = -1 then [] else [colorW, itoaL c.toNat]
theorem colT_join (c : Int) : colT c = joinW (colWs c) := by
  unfold colT colWs
  split <;> simp [joinW]
theorem itoa_wd : ∀ n, n < 16 → itoaL n ≠ [] ∧ ∀ c ∈ itoaL n, c ≠ 32 := by decide
theorem colWs_wd {c : Int} (h1 : -1 ≤ c) (h2 : c ≤ 15) : ∀ w ∈ colWs c, Wd w := by
  intro w h
  unfold colWs at h
  split at h
  · cases h
  · simp only [List.mem_cons, List.mem_nil_iff, or_false] at h
    rcases h with rfl | rfl
    · exact ⟨by decide, by decide⟩
    · exact itoa_wd c.toNat (by omega)
/-- What is written parts into its words. -/
theorem words_text {s : Sty} (hn : nameB s.nm = true) (hp : s.pr = [] ∨ nameB s.pr = true) (h1 : -1 ≤ s.ch.col) (h2 : s.ch.col ≤ 15) :
    wordsL (textS s) = (s.nm ++ parT s.pr) :: (bitsW 43 s.ch.on.toNat 7 ++ bitsW 45 s.ch.off.toNat 7 ++ colWs s.ch.col) := by
  unfold wordsL textS
  rw [bitsT_join, bitsT_join, colT_join]
  have e : s.nm ++ parT s.pr ++ joinW (bitsW 43 s.ch.on.toNat 7) ++ joinW (bitsW 45 s.ch.off.toNat 7) ++ joinW (colWs s.ch.col) =
      (s.nm ++ parT s.pr) ++ joinW (bitsW 43 s.ch.on.toNat 7 ++ bitsW 45 s.ch.off.toNat 7 ++ colWs s.ch.col) := by simp [join_app]
  rw [e, wsp_run, List.nil_append]
  · refine wsp_join _ _ ?_ ?_
    · have := name_ne hn
      cases h : s.nm with
      | nil => exact absurd h this
      | cons a r => simp
    · intro w hw
      simp only [List.mem_append] at hw
      rcases hw with (hw | hw) | hw
      · exact bitsW_wd (by decide) _ 7 (Nat.le_refl _) w hw
      · exact bitsW_wd (by decide) _ 7 (Nat.le_refl _) w hw
      · exact colWs_wd h1 h2 w hw
  · intro c hc
    simp only [List.mem_append] at hc
    rcases hc with hc | hc
    · exact (letter_ne hn c hc).2
    · unfold parT at hc
      rcases hp with e | hp
      · rw [if_pos e] at hc; cases hc
      · rw [if_neg (name_ne hp)] at hc
        rcases List.mem_cons.1 hc with rfl | hc
        · decide
        · exact (letter_ne hp c hc).2

theorem prs_bit {w : List UInt8} {r : List (List UInt8)} {c d : Chg} (hw : w ≠ colorW) (h : chg1 c w = some d) : prs (w :: r) c = prs r d := by
  cases r with
  | nil => simp only [prs, if_neg hw, h]
  | cons n r => simp only [prs, if_neg hw, h]
theorem prs_col {n : List UInt8} {r : List (List UInt8)} {c : Chg} {k : Nat} (hc : c.col = -1) (h : colOf n = some k) : prs (colorW :: n :: r) c = prs r ⟨c.on, c.off, (k : Int)⟩ := by
  simp only [prs, if_true, if_pos hc, h]
theorem bitOf_attr : ∀ k, k < 7 → bitOf (attrW.getD k []) = ((2 ^ k : Nat) : Int) := by decide
theorem sign_ne {sg : UInt8} (h : sg = 43 ∨ sg = 45) (w : List UInt8) : sg :: w ≠ colorW := by
  intro e
  have : sg = 99 := by unfold colorW at e; exact (List.cons.inj e).1
  rcases h with rfl | rfl <;> exact absurd this (by decide)
theorem pow_and {x k : Nat} (h : x.testBit k = false) : x &&& 2 ^ k = 0 := by
  apply Nat.eq_of_testBit_eq
  intro i
  rw [Nat.testBit_and, Nat.testBit_two_pow, Nat.zero_testBit]
  by_cases hi : k = i
  · subst hi; simp [h]
  · simp [hi]
theorem mod_succ (n k : Nat) : n % 2 ^ (k + 1) = if n.testBit k then n % 2 ^ k ||| 2 ^ k else n % 2 ^ k := by
  apply Nat.eq_of_testBit_eq
  intro i
  rw [Nat.testBit_mod_two_pow]
  by_cases hk : n.testBit k
  · rw [if_pos hk, Nat.testBit_or, Nat.testBit_mod_two_pow, Nat.testBit_two_pow]
    by_cases hi : i = k
    · subst hi; simp [hk]
    · by_cases h2 : i < k
      · simp [h2, show i < k + 1 by omega, Ne.symm hi]
      · simp [h2, show ¬ i < k + 1 by omega, Ne.symm hi]
  · rw [if_neg hk, Nat.testBit_mod_two_pow]
    by_cases hi : i = k
    · subst hi; simp [hk]
    · by_cases h2 : i < k
      · simp [h2, show i < k + 1 by omega]
      · simp [h2, show ¬ i < k + 1 by omega]
theorem and_bit {n o k : Nat} (h : n &&& o = 0) (hk : n.testBit k = true) : o.testBit k = false := by
  have := congrArg (fun x => x.testBit k) h
  simpa [Nat.testBit_and, hk] using this
theorem mod_bit (n k : Nat) : (n % 2 ^ k).testBit k = false := by rw [Nat.testBit_mod_two_pow]; simp
theorem taken_ok {m o k : Nat} {col : Int} (hk : k < 7) (hm : m < 128) (ho : o < 128) (h1 : m.testBit k = false) (h2 : o.testBit k = false) : taken ⟨m, o, col⟩ (attrW.getD k []) = true := by
  unfold taken
  rw [bitOf_attr k hk]
  have hp : (2 ^ k : Nat) < 2 ^ 7 := Nat.pow_lt_pow_right (by decide) hk
  have hor : m ||| o < 2 ^ 7 := Nat.or_lt_two_pow (by omega) (by omega)
  simp only [nor m o (by omega) (by omega)]
  rw [nand _ _ (by omega) (by omega), pow_and (by rw [Nat.testBit_or, h1, h2]; rfl)]
  have h0 : 0 < 2 ^ k := Nat.two_pow_pos k
  have h3 : ((2 ^ k : Nat) : Int) ≠ 0 := by omega
  rw [Bool.and_eq_true]
  exact ⟨bne_iff_ne.2 h3, by decide⟩
theorem prs_on (n o : Nat) (col : Int) (r : List (List UInt8)) (hn : n < 128) (ho : o < 128) (hno : n &&& o = 0) : ∀ k, k ≤ 7 → prs (bitsW 43 n k ++ r) ⟨0, o, col⟩ = prs r ⟨((n % 2 ^ k : Nat) : Int), o, col⟩ := by
  intro k
  induction k generalizing r with
  | zero => intro _; simp [bitsW, Nat.mod_one]
  | succ k ih =>
    intro hk
    simp only [bitsW, List.append_assoc]
    rw [ih _ (by omega), mod_succ]
    by_cases hb : n.testBit k = true
    · rw [if_pos hb, if_pos hb]
      have hp : (2 ^ k : Nat) < 2 ^ 7 := Nat.pow_lt_pow_right (by decide) (by omega)
      have hm : n % 2 ^ k < 128 := Nat.lt_of_le_of_lt (Nat.mod_le _ _) hn
      refine prs_bit (sign_ne (.inl rfl) _) ?_
      simp only [chg1, if_true]
      rw [if_pos (taken_ok (by omega) hm ho (mod_bit n k) (and_bit hno hb)), bitOf_attr k (by omega), nor _ _ (by omega) (by omega)]
    · rw [if_neg hb, if_neg hb]; rfl
theorem prs_off (m n : Nat) (col : Int) (r : List (List UInt8)) (hm : m < 128) (hn : n < 128) (hno : m &&& n = 0) : ∀ k, k ≤ 7 → prs (bitsW 45 n k ++ r) ⟨m, 0, col⟩ = prs r ⟨m, ((n % 2 ^ k : Nat) : Int), col⟩ := by
  intro k
  induction k generalizing r with
  | zero => intro _; simp [bitsW, Nat.mod_one]
  | succ k ih =>
    intro hk
    simp only [bitsW, List.append_assoc]
    rw [ih _ (by omega), mod_succ]
    by_cases hb : n.testBit k = true
    · rw [if_pos hb, if_pos hb]
      have hp : (2 ^ k : Nat) < 2 ^ 7 := Nat.pow_lt_pow_right (by decide) (by omega)
      have hm2 : n % 2 ^ k < 128 := Nat.lt_of_le_of_lt (Nat.mod_le _ _) hn
      refine prs_bit (sign_ne (.inr rfl) _) ?_
      simp only [chg1]
      rw [if_neg (by decide), if_pos trivial, if_pos (taken_ok (by omega) hm hm2 (and_bit (by rw [Nat.and_comm]; exact hno) hb) (mod_bit n k)), bitOf_attr k (by omega), nor _ _ (by omega) (by omega)]
    · rw [if_neg hb, if_neg hb]; rfl
theorem colOf_itoa : ∀ k, k < 16 → colOf (itoaL k) = some k := by decide
theorem wrE_ok {s : Sty} : wrE s = 0 ↔ nameB s.nm = true ∧ OkC s.ch ∧ (s.pr = [] ∨ nameB s.pr = true) := by
  unfold wrE
  constructor
  · intro h
    split at h
    · cases h
    · split at h
      · rename_i h1; exact absurd h h1
      · split at h
        · cases h
        · rename_i h1 h2 h3
          refine ⟨by simpa using h1, ownE_ok.1 (by simpa using h2), ?_⟩
          by_cases e : s.pr = []
          · exact .inl e
          · right
            cases hb : nameB s.pr with
            | true => rfl
            | false => exact absurd ⟨e, hb⟩ h3
  · rintro ⟨h1, h2, h3⟩
    rw [if_neg (by simp [h1]), if_neg (by simp [ownE_ok.2 h2]), if_neg ?_]
    rintro ⟨a, b⟩
    rcases h3 with h3 | h3
    · exact a h3
    · rw [h3] at b; cases b
theorem parse_write {s : Sty} (h : wrE s = 0) : parseW (wordsL (textS s)) = (s, 0) := by
  obtain ⟨hn, ⟨m, o, e1, e2, hm, ho, hmo, h6, h7⟩, hp⟩ := wrE_ok.1 h
  rw [words_text hn hp h6 h7]
  simp only [parseW]
  rw [nms_text hn hp]
  have em : s.ch.on.toNat = m := by omega
  have eo : s.ch.off.toNat = o := by omega
  rw [em, eo, List.append_assoc]
  have e0 : none0 = (⟨((0 : Nat) : Int), ((0 : Nat) : Int), -1⟩ : Chg) := rfl
  have h1 := prs_on m 0 (-1) (bitsW 45 o 7 ++ colWs s.ch.col) hm (by omega) (by simp) 7 (Nat.le_refl _)
  have h2 := prs_off m o (-1) (colWs s.ch.col) hm ho hmo 7 (Nat.le_refl _)
  rw [Nat.mod_eq_of_lt (by omega : m < 2 ^ 7)] at h1
  rw [Nat.mod_eq_of_lt (by omega : o < 2 ^ 7)] at h2
  have h3 : prs (colWs s.ch.col) ⟨m, o, -1⟩ = some s.ch := by
    unfold colWs
    by_cases e : s.ch.col = -1
    · rw [if_pos e]
      simp only [prs]
      exact congrArg some (Chg.eq e1.symm e2.symm e.symm)
    · rw [if_neg e, prs_col rfl (colOf_itoa s.ch.col.toNat (by omega))]
      simp only [prs]
      refine congrArg some (Chg.eq e1.symm e2.symm ?_)
      show ((s.ch.col.toNat : Nat) : Int) = s.ch.col
      omega
  have h4 : prs (bitsW 43 m 7 ++ (bitsW 45 o 7 ++ colWs s.ch.col)) none0 = some s.ch := by
    rw [← h3, ← h2]; exact h1
  rw [h4]
theorem idxW_lt {w : List UInt8} : ∀ {l : List (List UInt8)} {k j : Nat}, idxW w l k = some j → j < k + l.length
  | [], k, j, h => by simp [idxW] at h
  | x :: r, k, j, h => by
    unfold idxW at h
    split at h
    · injection h with h; simp; omega
    · have := idxW_lt h; simp; omega
theorem bitOf_pow {w : List UInt8} (h : bitOf w ≠ 0) : ∃ k, k < 7 ∧ bitOf w = ((2 ^ k : Nat) : Int) := by
  unfold bitOf at h ⊢
  cases e : idxW w attrW 0 with
  | none => rw [e] at h; exact absurd rfl h
  | some k => exact ⟨k, by have := idxW_lt e; simpa [attrW] using this, rfl⟩
theorem and_or_zero {a b k : Nat} (h : a &&& b = 0) (hk : b.testBit k = false) : (a ||| 2 ^ k) &&& b = 0 := by
  apply Nat.eq_of_testBit_eq
  intro i
  have h2 := congrArg (fun x => x.testBit i) h
  simp only [Nat.testBit_and, Nat.zero_testBit] at h2
  simp only [Nat.testBit_and, Nat.testBit_or, Nat.testBit_two_pow, Nat.zero_testBit]
  by_cases hi : k = i
  · subst hi; simp [hk]
  · simpa [hi] using h2
theorem chg1_ok {c d : Chg} {w : List UInt8} (hc : OkC c) (h : chg1 c w = some d) : OkC d := by
  obtain ⟨m, o, e1, e2, hm, ho, hmo, h6, h7⟩ := hc
  have key : ∀ x, taken c x = true → ∃ k, k < 7 ∧ bitOf x = ((2 ^ k : Nat) : Int) ∧ m.testBit k = false ∧ o.testBit k = false := by
    intro x hx
    unfold taken at hx
    simp only [Bool.and_eq_true, bne_iff_ne, ne_eq, beq_iff_eq] at hx
    obtain ⟨k, hk, e⟩ := bitOf_pow hx.1
    refine ⟨k, hk, e, ?_⟩
    have hp : (2 ^ k : Nat) < 2 ^ 7 := Nat.pow_lt_pow_right (by decide) hk
    have hor : m ||| o < 2 ^ 7 := Nat.or_lt_two_pow (by omega) (by omega)
    have h2 := hx.2
    rw [e1, e2, e, nor m o (by omega) (by omega), nand _ _ (by omega) (by omega)] at h2
    have h3 : (m ||| o) &&& 2 ^ k = 0 := by exact_mod_cast h2
    have h4 := congrArg (fun x => x.testBit k) h3
    simp only [Nat.testBit_and, Nat.testBit_or, Nat.testBit_two_pow, Nat.zero_testBit, decide_true, Bool.and_true, Bool.or_eq_false_iff] at h4
    exact h4
  cases w with
  | nil => simp [chg1] at h
  | cons g w =>
    simp only [chg1] at h
    split at h
    · split at h
      · rename_i ht
        obtain ⟨k, hk, e, b1, b2⟩ := key w ht
        injection h with h
        subst h
        have hp : (2 ^ k : Nat) < 2 ^ 7 := Nat.pow_lt_pow_right (by decide) hk
        refine ⟨m ||| 2 ^ k, o, ?_, e2, ?_, ho, and_or_zero hmo b2, h6, h7⟩
        · show bits .or .i64 c.on (bitOf w) = _
          rw [e1, e, nor _ _ (by omega) (by omega)]
        · have : m ||| 2 ^ k < 2 ^ 7 := Nat.or_lt_two_pow (by omega) hp
          omega
      · cases h
    · split at h
      · split at h
        · rename_i ht
          obtain ⟨k, hk, e, b1, b2⟩ := key w ht
          injection h with h
          subst h
          have hp : (2 ^ k : Nat) < 2 ^ 7 := Nat.pow_lt_pow_right (by decide) hk
          refine ⟨m, o ||| 2 ^ k, e1, ?_, hm, ?_, ?_, h6, h7⟩
          · show bits .or .i64 c.off (bitOf w) = _
            rw [e2, e, nor _ _ (by omega) (by omega)]
          · have : o ||| 2 ^ k < 2 ^ 7 := Nat.or_lt_two_pow (by omega) hp
            omega
          · rw [Nat.and_comm]; exact and_or_zero (by rw [Nat.and_comm]; exact hmo) b1
        · cases h
      · cases h
theorem colF_lt {w : List UInt8} : ∀ {f n k : Nat}, colF w f n = some k → k < n + f
  | 0, n, k, h => by simp [colF] at h
  | f + 1, n, k, h => by
    unfold colF at h
    split at h
    · injection h with h; omega
    · have := colF_lt h; omega
theorem prs_ok : ∀ (l : List (List UInt8)) {c d : Chg}, OkC c → prs l c = some d → OkC d
  | [], c, d, hc, h => by simp [prs] at h; subst h; exact hc
  | [w], c, d, hc, h => by
    simp only [prs] at h
    split at h
    · cases h
    · exact chg1_ok hc h
  | w :: n :: r, c, d, hc, h => by
    simp only [prs] at h
    split at h
    · split at h
      · cases e : colOf n with
        | none => rw [e] at h; cases h
        | some k =>
          rw [e] at h
          have hk := colF_lt e
          obtain ⟨m, o, e1, e2, hm, ho, hmo, h6, h7⟩ := hc
          exact prs_ok r (c := ⟨c.on, c.off, (k : Int)⟩) ⟨m, o, e1, e2, hm, ho, hmo, by show (-1 : Int) ≤ (k : Int); omega, by show (k : Int) ≤ 15; omega⟩ h
      · cases h
    · cases e : chg1 c w with
      | none => rw [e] at h; cases h
      | some x => rw [e] at h; exact prs_ok (n :: r) (chg1_ok hc e) h
theorem nms_ok {w n p : List UInt8} (h : nmsM w = some (n, p)) : nameB n = true ∧ (p = [] ∨ nameB p = true) := by
  unfold nmsM at h
  split at h
  · split at h
    · rename_i h1; injection h with h; injection h with h2 h3; subst h2; subst h3; exact ⟨h1, .inl rfl⟩
    · cases h
  · split at h
    · rename_i h1
      simp only [Bool.and_eq_true] at h1
      injection h with h; injection h with h2 h3; subst h2; subst h3; exact ⟨h1.1, .inr h1.2⟩
    · cases h
theorem write_parse {l : List (List UInt8)} {s : Sty} (h : parseW l = (s, 0)) : wrE s = 0 := by
  cases l with
  | nil => simp [parseW] at h
  | cons w r =>
    simp only [parseW] at h
    cases e : nmsM w with
    | none => rw [e] at h; simp at h
    | some p =>
      rw [e] at h
      dsimp only at h
      cases e2 : prs r none0 with
      | none => rw [e2] at h; simp at h
      | some c =>
        rw [e2] at h
        simp only [Prod.mk.injEq, and_true] at h
        subst h
        obtain ⟨a, b⟩ := nms_ok (n := p.1) (p := p.2) e
        exact wrE_ok.2 ⟨a, prs_ok r ⟨0, 0, rfl, rfl, by decide, by decide, by decide, by decide, by decide⟩ e2, b⟩
end Go.Proofs.YtceanagnkcejgaaGreatDoor
