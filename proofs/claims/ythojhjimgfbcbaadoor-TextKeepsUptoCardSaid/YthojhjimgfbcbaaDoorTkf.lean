/- Folding over the pieces of a text. Plain mathematics. -/
import Derived.Test.YthojhjimgfbcbaaDoorTk
namespace Go.Proofs.YthojhjimgfbcbaaDoor
open Go
set_option linter.unusedVariables false

def smT : Tk → Tk
  | .good r => .good (sml r).toNat
  | .bad b => .bad b
def tStep (st : List Tk × Bool) (t : Tk) : List Tk × Bool :=
  if t.rn = 32 then (st.1, !st.1.isEmpty) else ((if st.2 then st.1 ++ [.good 32] else st.1) ++ [smT t], false)
theorem tStep_b (st : List Tk × Bool) (t : Tk) (h : t.rn = 32) : tStep st t = (st.1, !st.1.isEmpty) := by unfold tStep; rw [if_pos h]
theorem tStep_o (st : List Tk × Bool) (t : Tk) (h : ¬ t.rn = 32) : tStep st t = ((if st.2 then st.1 ++ [.good 32] else st.1) ++ [smT t], false) := by unfold tStep; rw [if_neg h]
def foldT (l : List Tk) : List Tk := (l.foldl tStep ([], false)).1
theorem sml_nat (r : Nat) : ((sml r).toNat : Int) = sml r := by
  have : 0 ≤ sml r := by unfold sml; split <;> (try split) <;> omega
  omega
theorem sml_sml (r : Int) : sml (sml r) = sml r := by
  by_cases h1 : (inB r 65 90 || inB r 192 222 && r != 215 || inB r 913 937 && r != 930 || inB r 1040 1071) = true
  · have e : sml r = r + 32 := by unfold sml; rw [if_pos h1]
    rw [e]
    simp only [inB, Bool.or_eq_true, Bool.and_eq_true, decide_eq_true_eq, bne_iff_ne, ne_eq] at h1
    unfold sml
    rw [if_neg (by simp only [inB, Bool.or_eq_true, Bool.and_eq_true, decide_eq_true_eq, bne_iff_ne, ne_eq]; omega), if_neg (by simp only [inB, decide_eq_true_eq]; omega)]
  · by_cases h2 : inB r 1024 1039 = true
    · have e : sml r = r + 80 := by unfold sml; rw [if_neg h1, if_pos h2]
      rw [e]
      simp only [inB, decide_eq_true_eq] at h2
      unfold sml
      rw [if_neg (by simp only [inB, Bool.or_eq_true, Bool.and_eq_true, decide_eq_true_eq, bne_iff_ne, ne_eq]; omega), if_neg (by simp only [inB, decide_eq_true_eq]; omega)]
    · have e : sml r = r := by unfold sml; rw [if_neg h1, if_neg h2]
      rw [e, e]
theorem sml_blank (r : Nat) : (sml r).toNat = 32 ↔ r = 32 := by
  have h : sml r = r ∨ sml r = r + 32 ∧ 65 ≤ r ∨ sml r = r + 80 ∧ 65 ≤ r := by
    unfold sml
    split
    · rename_i h; simp only [inB, Bool.or_eq_true, Bool.and_eq_true, decide_eq_true_eq, bne_iff_ne, ne_eq] at h; omega
    · split
      · rename_i h; simp only [inB, decide_eq_true_eq] at h; omega
      · omega
  omega
theorem sml_ok (r : Nat) (h : okR r) : okR (sml r).toNat := by
  have h2 : sml r = r ∨ (sml r = r + 32 ∧ r ≤ 1071) ∨ (sml r = r + 80 ∧ r ≤ 1071) := by
    unfold sml
    split
    · rename_i h; simp only [inB, Bool.or_eq_true, Bool.and_eq_true, decide_eq_true_eq, bne_iff_ne, ne_eq] at h; omega
    · split
      · rename_i h; simp only [inB, decide_eq_true_eq] at h; omega
      · omega
  unfold okR at *
  omega
theorem smT_smT (t : Tk) : smT (smT t) = smT t := by
  cases t with
  | good r => simp only [smT]; rw [sml_nat, sml_sml]
  | bad b => rfl
theorem smT_rn (t : Tk) : (smT t).rn = 32 ↔ t.rn = 32 := by
  cases t with
  | good r => exact sml_blank r
  | bad b => exact Iff.rfl
theorem joinT_app (a b : List Tk) : joinT (a ++ b) = joinT a ++ joinT b := by unfold joinT; rw [List.flatMap_append]
theorem joinT_nil (l : List Tk) : joinT l = [] ↔ l = [] := by
  cases l with
  | nil => simp [joinT]
  | cons t l =>
    have h := tk_pos t
    rw [tk_n] at h
    have e : joinT (t :: l) = t.bytes ++ joinT l := rfl
    rw [e]
    constructor
    · intro h2
      have h3 := congrArg List.length h2
      rw [List.length_append] at h3
      simp only [List.length_nil] at h3
      omega
    · intro h2; cases h2
theorem dataApp (a b : ByteArray) : (a ++ b).data.toList = a.data.toList ++ b.data.toList := by rw [ByteArray.data_append, Array.toList_append]
theorem size_joinT {s : ByteArray} {L : List Tk} (h : s.data.toList = joinT L) : (!s.toList.isEmpty) = !L.isEmpty := by
  rw [emptyB]
  have h1 : s.size = (joinT L).length := by rw [← h, ← Lib.size_eq]
  have h2 := joinT_nil L
  cases L with
  | nil => simp [h1, joinT]
  | cons t l =>
    have h3 : joinT (t :: l) ≠ [] := fun e => by have := h2.1 e; cases this
    have h4 : 0 < (joinT (t :: l)).length := List.length_pos_iff.2 h3
    simp [h1, h4]
theorem blank32 : (⟨#[32]⟩ : ByteArray).data.toList = joinT [.good 32] := rfl
theorem foldCh_tk (s : ByteArray) (p : Nat) (t : Tk) (l : List Tk) (h : s.data.toList.drop p = joinT (t :: l)) : (foldCh s (p, t.rn, t.n)).data.toList = joinT [smT t] := by
  have hp : p < s.size := by
    have hn := tk_pos t
    have h1 := congrArg List.length h
    have h2 : (joinT (t :: l)).length = t.bytes.length + (joinT l).length := by show (t.bytes ++ joinT l).length = _; rw [List.length_append]
    rw [List.length_drop, ← Lib.size_eq, h2, ← tk_n] at h1
    omega
  rw [foldCh_list s (p, t.rn, t.n) hp, badB_tk]
  cases t with
  | good r =>
    show (if false = true then _ else Lib.encodeRune (sml r)) = Lib.encodeRune ((sml r).toNat : Int) ++ []
    rw [sml_nat, List.append_nil]
    rfl
  | bad b =>
    show (if true = true then [s[p]] else _) = [b]
    rw [if_pos rfl]
    have h' : p < s.data.toList.length := by rw [← Lib.size_eq]; exact hp
    rw [List.drop_eq_getElem_cons h'] at h
    have h2 : joinT (.bad b :: l) = b :: joinT l := rfl
    rw [h2] at h
    injection h with h3 _
    rw [← h3]
    simp
    rfl
theorem fold_steps (s : ByteArray) : ∀ (L : List Tk) (p : Nat) (out : ByteArray) (o : List Tk) (wt : Bool), s.data.toList.drop p = joinT L → out.data.toList = joinT o →
    ((chOf p L).foldl (foldStep s) (out, wt)).1.data.toList = joinT (L.foldl tStep (o, wt)).1
  | [], p, out, o, wt, _, ho => ho
  | t :: l, p, out, o, wt, h, ho => by
    simp only [chOf, List.foldl_cons]
    have hl : s.data.toList.drop (p + t.n) = joinT l := by rw [← List.drop_drop, h, tk_n]; show (t.bytes ++ joinT l).drop _ = _; exact List.drop_left
    by_cases hb : t.rn = 32
    · have e1 : foldStep s (out, wt) (p, t.rn, t.n) = (out, !o.isEmpty) := by unfold foldStep; rw [if_pos hb, size_joinT ho]
      have e2 : tStep (o, wt) t = (o, !o.isEmpty) := by unfold tStep; rw [if_pos hb]
      rw [e1, e2]
      exact fold_steps s l _ _ _ _ hl ho
    · have e1 : foldStep s (out, wt) (p, t.rn, t.n) = ((if wt then out ++ ⟨#[32]⟩ else out) ++ foldCh s (p, t.rn, t.n), false) := by unfold foldStep; rw [if_neg hb]
      have e2 : tStep (o, wt) t = ((if wt then o ++ [.good 32] else o) ++ [smT t], false) := by unfold tStep; rw [if_neg hb]
      rw [e1, e2]
      refine fold_steps s l _ _ _ _ hl ?_
      rw [dataApp, joinT_app, foldCh_tk s p t l h]
      cases wt
      · simp only [Bool.false_eq_true, if_false]; rw [ho]
      · simp only [if_true]; rw [dataApp, joinT_app, ho, blank32]
/-- A folded text's pieces. -/
theorem fold_pieces (s : ByteArray) (L : List Tk) (hs : Snd L) (h : s.data.toList = joinT L) : (fold s).data.toList = joinT (foldT L) := by
  unfold fold foldOf
  rw [chars_pieces s L hs h]
  exact fold_steps s L 0 _ _ _ (by rw [List.drop_zero, h]) rfl
/-- Folding from the front. -/
def nrm : Bool → Bool → List Tk → List Tk
  | _, _, [] => []
  | st, wt, t :: l => if t.rn = 32 then nrm st st l else (if wt then [.good 32] else []) ++ (smT t :: nrm true false l)
theorem nrm_eq : ∀ (l o : List Tk) (wt : Bool), (l.foldl tStep (o, wt)).1 = o ++ nrm (!o.isEmpty) wt l
  | [], o, wt => by simp [nrm]
  | t :: l, o, wt => by
    simp only [List.foldl_cons, nrm]
    by_cases hb : t.rn = 32
    · have e2 : tStep (o, wt) t = (o, !o.isEmpty) := by unfold tStep; rw [if_pos hb]
      rw [e2, if_pos hb, nrm_eq l]
    · have e2 : tStep (o, wt) t = ((if wt then o ++ [.good 32] else o) ++ [smT t], false) := by unfold tStep; rw [if_neg hb]
      have e3 : (!((if wt then o ++ [Tk.good 32] else o) ++ [smT t]).isEmpty) = true := by simp
      rw [e2, if_neg hb, nrm_eq l, e3]
      cases wt <;> simp
theorem foldT_nrm (l : List Tk) : foldT l = nrm false false l := by unfold foldT; rw [nrm_eq]; rfl
theorem cts_wait : ∀ l : List Tk, ctsT (nrm true true l) = []
  | [] => rfl
  | t :: l => by
    simp only [nrm]
    split
    · exact cts_wait l
    · rfl
theorem cts_nrm : ∀ l : List Tk, ctsT (nrm true false l) = ctsT l
  | [] => rfl
  | .good r :: l => by
    simp only [nrm]
    split
    · rw [cts_wait]; rfl
    · rfl
  | .bad b :: l => by
    simp only [nrm]
    rw [if_neg (show ¬ (Tk.bad b).rn = 32 from (show ¬ (65533 : Nat) = 32 by decide))]
    simp only [Bool.false_eq_true, if_false, List.nil_append, smT, ctsT]
    rw [cts_nrm l]
theorem ok32 : okR 32 := by unfold okR; omega
theorem snd_nrm : ∀ (l : List Tk) (st wt : Bool), Snd l → Snd (nrm st wt l)
  | [], _, _, _ => trivial
  | t :: l, st, wt, h => by
    simp only [nrm]
    split
    · exact snd_nrm l _ _ (snd_tail h)
    · have ih := snd_nrm l true false (snd_tail h)
      have h2 : Snd (smT t :: nrm true false l) := by
        cases t with
        | good r => exact ⟨sml_ok r h.1, ih⟩
        | bad b => exact ⟨by rw [cts_nrm]; exact h.1, ih⟩
      cases wt
      · exact h2
      · exact ⟨ok32, h2⟩
theorem snd_foldT (l : List Tk) (h : Snd l) : Snd (foldT l) := by rw [foldT_nrm]; exact snd_nrm l _ _ h
theorem foldl_again : ∀ (r l : List Tk), l = r.reverse → ∃ wt, (l.foldl tStep ([], false)).2 = wt ∧ (wt = true → (foldT l) ≠ []) ∧ (foldT l).foldl tStep ([], false) = (foldT l, false)
  | [], l, h => by subst h; exact ⟨false, rfl, by simp, rfl⟩
  | t :: r, l, h => by
    obtain ⟨wt, h1, h2, h3⟩ := foldl_again r r.reverse rfl
    have e0 : l.foldl tStep ([], false) = tStep ((foldT r.reverse), wt) t := by
      subst h
      rw [List.reverse_cons, List.foldl_append]
      show tStep (r.reverse.foldl tStep ([], false)) t = _
      congr 1
      exact Prod.ext rfl h1
    have ef : foldT l = (tStep ((foldT r.reverse), wt) t).1 := by rw [← e0]; rfl
    rw [ef, e0]
    generalize foldT r.reverse = o at h2 h3
    by_cases hb : t.rn = 32
    · have e2 : tStep (o, wt) t = (o, !o.isEmpty) := by unfold tStep; rw [if_pos hb]
      rw [e2]
      refine ⟨_, rfl, ?_, h3⟩
      intro h; simp at h; exact h
    · have e2 : tStep (o, wt) t = ((if wt then o ++ [.good 32] else o) ++ [smT t], false) := by unfold tStep; rw [if_neg hb]
      have hb2 : ¬ (smT t).rn = 32 := fun h => hb ((smT_rn t).1 h)
      rw [e2]
      refine ⟨_, rfl, by simp, ?_⟩
      rw [List.foldl_append]
      cases wt
      · simp only [Bool.false_eq_true, if_false]
        rw [h3]
        simp only [List.foldl_cons, List.foldl_nil]
        rw [tStep_o _ _ hb2, smT_smT]
        simp
      · simp only [if_true]
        rw [List.foldl_append, h3]
        have ho : o.isEmpty = false := by
          have := h2 rfl
          cases o with
          | nil => exact absurd rfl this
          | cons a b => rfl
        have e4 : tStep (o, false) (.good 32) = (o, true) := by
          rw [tStep_b _ _ rfl]
          show (o, !o.isEmpty) = (o, true)
          rw [ho]
          rfl
        simp only [List.foldl_cons, List.foldl_nil]
        rw [e4]
        rw [tStep_o _ _ hb2, smT_smT]
        simp
theorem foldT_foldT (l : List Tk) : foldT (foldT l) = foldT l := by
  obtain ⟨_, _, _, h⟩ := foldl_again l.reverse l (by simp)
  show ((foldT l).foldl tStep ([], false)).1 = _
  rw [h]
theorem data_inj {a b : ByteArray} (h : a.data.toList = b.data.toList) : a = b := by
  have : a.data = b.data := by rw [← Array.toArray_toList (xs := a.data), h, Array.toArray_toList]
  cases a; cases b; simp_all
/-- Folded once is folded. -/
theorem fold_fold (s : ByteArray) : fold (fold s) = fold s := by
  obtain ⟨L, h1, h2⟩ := text_pieces s
  have h3 := fold_pieces s L h1 h2
  have h4 := fold_pieces (fold s) (foldT L) (snd_foldT L h1) h3
  rw [foldT_foldT] at h4
  exact data_inj (h4.trans h3.symm)
/-- One text comes of another by small letters and more blanks. -/
inductive Rep : List Tk → List Tk → Prop where
  | nil : Rep [] []
  | same (t : Tk) {l m : List Tk} : Rep l m → Rep (t :: l) (t :: m)
  | blank {l m : List Tk} : Rep l m → Rep (.good 32 :: l) (.good 32 :: .good 32 :: .good 32 :: m)
  | small (r : Nat) {l m : List Tk} : Rep l m → Rep (.good r :: l) (.good (sml r).toNat :: m)
theorem Rep.app {l m l' m' : List Tk} (h : Rep l m) (h' : Rep l' m') : Rep (l ++ l') (m ++ m') := by
  induction h with
  | nil => exact h'
  | same t _ ih => exact .same t ih
  | blank _ ih => exact .blank ih
  | small r _ ih => exact .small r ih
theorem Rep.cts {l m : List Tk} (h : Rep l m) : ctsT m = ctsT l := by
  induction h with
  | nil => rfl
  | same t _ ih => cases t with
    | good r => rfl
    | bad b => simp only [ctsT]; rw [ih]
  | blank _ ih => rfl
  | small r _ ih => rfl
theorem Rep.snd {l m : List Tk} (h : Rep l m) : Snd l → Snd m := by
  induction h with
  | nil => exact fun h => h
  | same t h0 ih => cases t with
    | good r => exact fun h => ⟨h.1, ih h.2⟩
    | bad b => exact fun h => ⟨by rw [h0.cts]; exact h.1, ih h.2⟩
  | blank _ ih => exact fun h => ⟨ok32, ok32, ok32, ih h.2⟩
  | small r _ ih => exact fun h => ⟨sml_ok r h.1, ih h.2⟩
theorem Rep.foldl {l m : List Tk} (h : Rep l m) : ∀ st, m.foldl tStep st = l.foldl tStep st := by
  induction h with
  | nil => exact fun _ => rfl
  | same t _ ih => exact fun st => ih _
  | blank _ ih =>
    intro st
    simp only [List.foldl_cons]
    rw [show tStep (tStep (tStep st (.good 32)) (.good 32)) (.good 32) = tStep st (.good 32) from rfl]
    exact ih _
  | small r _ ih =>
    intro st
    simp only [List.foldl_cons]
    have e : tStep st (.good (sml r).toNat) = tStep st (.good r) := by
      have h1 := smT_smT (.good r)
      have h2 := smT_rn (.good r)
      show tStep st (smT (.good r)) = _
      by_cases hb : (Tk.good r).rn = 32
      · rw [tStep_b _ _ hb, tStep_b _ _ (h2.2 hb)]
      · rw [tStep_o _ _ hb, tStep_o _ _ (fun h => hb (h2.1 h))]
        rw [h1]
    rw [e]
    exact ih _
/-- .. and then it is folded to the same. -/
theorem fold_rep (s t : ByteArray) (L M : List Tk) (h : Rep L M) (hs : Snd L) (h1 : s.data.toList = joinT L) (h2 : t.data.toList = joinT M) : fold t = fold s := by
  apply data_inj
  rw [fold_pieces t M (h.snd hs) h2, fold_pieces s L hs h1]
  unfold foldT
  rw [h.foldl]
end Go.Proofs.YthojhjimgfbcbaaDoor
