/- Layer 12, plain: a row is its cells: what stands in a row's line at a column's place is that column's line. -/
import Derived.Test.YtadecjjbpoaooaaVm
import Derived.Test.YtadecjjbpoaooaaVj
namespace Go.Proofs.Ytadecjjbpoaooaa.Tb
open Go
set_option linter.unusedVariables false
set_option linter.unusedSimpArgs false
/-- Without the blanks at its end. -/
def trimM (l : List Gl) : List Gl := (l.reverse.dropWhile isB).reverse
/-- What stands in a line from a cell on, so wide; the line begins at a cell. -/
def cutP (a w : Int) : Int → List Gl → List Gl
  | _, [] => []
  | c, g :: l => if a ≤ c ∧ c < a + w then g :: cutP a w (c + g.wd) l else cutP a w (c + g.wd) l
theorem cutP_app (a w : Int) : ∀ (x : List Gl) (c : Int) (y : List Gl), cutP a w c (x ++ y) = cutP a w c x ++ cutP a w (c + wid x) y
  | [], c, y => by simp [cutP, wid]
  | g :: x, c, y => by
    simp only [List.cons_append, cutP, cutP_app a w x, wid, Int.add_assoc]
    split <;> simp
theorem wid_nn (x : List Gl) (h : ∀ g ∈ x, 1 ≤ g.wd ∧ g.wd ≤ 2) : 0 ≤ wid x := by have := (wid_ge x h).1; omega
theorem cutP_none (a w : Int) : ∀ (x : List Gl) (c : Int), (∀ g ∈ x, 1 ≤ g.wd ∧ g.wd ≤ 2) → (c + wid x ≤ a ∨ a + w ≤ c) → cutP a w c x = []
  | [], c, _, _ => rfl
  | g :: x, c, hg, h => by
    have h1 := hg g (by simp)
    have h2 := wid_nn x fun y hy => hg y (List.mem_cons_of_mem _ hy)
    simp only [wid] at h
    unfold cutP
    rw [if_neg (by omega)]
    exact cutP_none a w x _ (fun y hy => hg y (List.mem_cons_of_mem _ hy)) (by omega)
theorem cutP_all (a w : Int) : ∀ (x : List Gl) (c : Int), (∀ g ∈ x, 1 ≤ g.wd ∧ g.wd ≤ 2) → a ≤ c → c + wid x ≤ a + w → cutP a w c x = x
  | [], c, _, _, _ => rfl
  | g :: x, c, hg, h, h3 => by
    have h1 := hg g (by simp)
    have h2 := wid_nn x fun y hy => hg y (List.mem_cons_of_mem _ hy)
    simp only [wid] at h3
    unfold cutP
    rw [if_pos (by omega), cutP_all a w x _ (fun y hy => hg y (List.mem_cons_of_mem _ hy)) (by omega) (by omega)]
theorem cutP_sub (a w : Int) : ∀ (x : List Gl) (c : Int), ∀ g ∈ cutP a w c x, g ∈ x
  | [], c, g, h => by simp [cutP] at h
  | y :: x, c, g, h => by
    unfold cutP at h
    split at h
    · rcases List.mem_cons.1 h with h | h
      · exact List.mem_cons.2 (.inl h)
      · exact List.mem_cons_of_mem _ (cutP_sub a w x _ g h)
    · exact List.mem_cons_of_mem _ (cutP_sub a w x _ g h)
theorem isB_plain : isB plainG = true := by kernel_rfl
theorem rep_ok (n : Nat) : ∀ g ∈ List.replicate n plainG, 1 ≤ g.wd ∧ g.wd ≤ 2 := fun g hg => by
  rw [List.mem_replicate] at hg
  rw [hg.2]; simp [plainG]
theorem trim_blanks : ∀ (x bs : List Gl), (∀ g ∈ bs, isB g = true) → trimM (x ++ bs) = trimM x := fun x bs h => by
  unfold trimM
  rw [List.reverse_append]
  congr 1
  have h' : ∀ g ∈ bs.reverse, isB g = true := fun g hg => h g (List.mem_reverse.1 hg)
  generalize bs.reverse = cs at h'
  induction cs with
  | nil => rfl
  | cons c cs ih =>
    rw [List.cons_append, List.dropWhile_cons, if_pos (h' c (by simp))]
    exact ih fun g hg => h' g (List.mem_cons_of_mem _ hg)
/-- Columns one behind the other, from a cell on. -/
def FromC : Int → List (Int × Int) → Prop
  | _, [] => True
  | e, c :: cs => e ≤ c.1 ∧ 1 ≤ c.2 ∧ FromC (c.1 + c.2) cs
/-- Each column's lines fit. -/
def FitC : List (Int × Int) → List (List (List Gl)) → Prop
  | c :: cs, p :: ps => (∀ r ∈ p, LineOk c.2 r) ∧ FitC cs ps
  | _, _ => True
theorem lineOk_mem {w : Int} {p : List (List Gl)} (h : ∀ r ∈ p, LineOk w r) {j : Nat} (hj : j < p.length) : LineOk w (p.getD j []) := by
  rw [List.getD_eq_getElem?_getD, List.getElem?_eq_getElem hj]
  exact h _ (List.getElem_mem hj)
theorem next_ok {j : Nat} {r : List Gl} {e : Int} {c : Int × Int} {p : List (List Gl)} (hr : LineOk e r) (he : e ≤ c.1) (hw : 1 ≤ c.2) (hp : ∀ r ∈ p, LineOk c.2 r) : LineOk (c.1 + c.2) (if j < p.length then putLine r c.1 (p.getD j []) else r) := by
  split
  · rename_i hj
    exact putLine_ok hr he (lineOk_mem hp hj)
  · exact hr.mono (by omega)
/-- What later columns add to a place is blanks. -/
theorem cut_later (j : Nat) (a w : Int) : ∀ (cs : List (Int × Int)) (ps : List (List (List Gl))) (r : List Gl) (e : Int), FromC e cs → FitC cs ps → LineOk e r → a + w ≤ e → ∃ bs : List Gl, (∀ g ∈ bs, isB g = true) ∧ cutP a w 0 (lineF j r cs ps) = cutP a w 0 r ++ bs
  | [], ps, r, e, _, _, _, _ => ⟨[], fun g h => by simp at h, by simp [lineF]⟩
  | c :: cs, [], r, e, _, _, _, _ => ⟨[], fun g h => by simp at h, by simp [lineF]⟩
  | c :: cs, p :: ps, r, e, hc, hf, hr, he => by
    obtain ⟨c1, c2, c3⟩ := hc
    obtain ⟨f1, f2⟩ := hf
    obtain ⟨bs, h1, h2⟩ := cut_later j a w cs ps _ (c.1 + c.2) c3 f2 (next_ok (j := j) hr c1 c2 f1) (by omega)
    unfold lineF
    rw [h2]
    split
    · rename_i hj
      refine ⟨cutP a w (0 + wid r) (List.replicate (c.1 - wid r).toNat plainG) ++ bs, fun g hg => ?_, ?_⟩
      · rcases List.mem_append.1 hg with hg | hg
        · have := cutP_sub _ _ _ _ g hg
          rw [List.mem_replicate] at this
          rw [this.2]; exact isB_plain
        · exact h1 g hg
      · unfold putLine
        have hl := lineOk_mem f1 hj
        have hw := hr.2
        have h3 : cutP a w (0 + wid (r ++ List.replicate (c.1 - wid r).toNat plainG)) (p.getD j []) = [] := by
          apply cutP_none _ _ _ _ hl.1
          right
          rw [wid_app, wid_rep]
          simp only [plainG]
          omega
        rw [cutP_app, cutP_app, h3]
        simp
    · exact ⟨bs, h1, rfl⟩
theorem cut_col (j : Nat) : ∀ (cs : List (Int × Int)) (ps : List (List (List Gl))) (r : List Gl) (e : Int), FromC e cs → FitC cs ps → LineOk e r → cs.length = ps.length → ∀ i (hi : i < cs.length) (hp : i < ps.length), trimM (cutP cs[i].1 cs[i].2 0 (lineF j r cs ps)) = if j < ps[i].length then trimM (ps[i].getD j []) else []
  | [], _, _, _, _, _, _, _, i, hi, _ => absurd hi (by simp)
  | _ :: _, [], _, _, _, _, _, h, _, _, _ => by simp at h
  | c :: cs, p :: ps, r, e, hc, hf, hr, hl, 0, hi, hp => by
    obtain ⟨c1, c2, c3⟩ := hc
    obtain ⟨f1, f2⟩ := hf
    obtain ⟨bs, h1, h2⟩ := cut_later j c.1 c.2 cs ps _ (c.1 + c.2) c3 f2 (next_ok (j := j) hr c1 c2 f1) (Int.le_refl _)
    unfold lineF
    simp only [List.getElem_cons_zero]
    rw [h2, trim_blanks _ _ h1]
    have hw := hr.2
    have h0 : cutP c.1 c.2 0 r = [] := cutP_none _ _ _ _ hr.1 (.inl (by omega))
    split
    · rename_i hj
      have hl := lineOk_mem f1 hj
      unfold putLine
      rw [cutP_app, cutP_app, h0, cutP_none _ _ _ _ (rep_ok _) (.inl (by rw [wid_rep]; simp only [plainG]; omega)), cutP_all _ _ _ _ hl.1 (by rw [wid_app, wid_rep]; simp only [plainG]; omega) (by rw [wid_app, wid_rep]; simp only [plainG]; have := hl.2; omega)]
      simp
    · rw [h0]; rfl
  | c :: cs, p :: ps, r, e, hc, hf, hr, hl, i + 1, hi, hp => by
    obtain ⟨c1, c2, c3⟩ := hc
    obtain ⟨f1, f2⟩ := hf
    exact cut_col j cs ps _ (c.1 + c.2) c3 f2 (next_ok (j := j) hr c1 c2 f1) (by simpa using hl) i (by simpa using hi) (by simpa using hp)
theorem fromC_colsAt {gap : Int} (hg : 0 ≤ gap) : ∀ (l : List Int) (a : Int), (∀ i, i < l.length → 1 ≤ l.getD i 0) → FromC a (colsAt gap a l)
  | [], a, _ => trivial
  | w :: l, a, h => by
    refine ⟨Int.le_refl _, by simpa using h 0 (by simp), ?_⟩
    have ih := fromC_colsAt hg l (a + w + gap) fun i hi => by simpa using h (i + 1) (by simpa using hi)
    show FromC (a + w) (colsAt gap (a + w + gap) l)
    cases l with
    | nil => trivial
    | cons x l => exact ⟨by have := ih.1; omega, ih.2⟩
theorem fit_parts : ∀ (cs : List (Int × Int)) (fs : List (List Gl)), errF cs fs = 0 → FitC cs (partsF cs fs)
  | [], _, _ => by simp [FitC]
  | _ :: _, [], _ => by simp [partsF, FitC]
  | c :: cs, f :: fs, h => by
    unfold errF at h
    split at h
    · rename_i h1
      exact ⟨fill_lines h1, fit_parts cs fs h⟩
    · contradiction
theorem errF_at : ∀ (cs : List (Int × Int)) (fs : List (List Gl)), errF cs fs = 0 → ∀ i (h1 : i < cs.length) (h2 : i < fs.length), fillE cs[i].2 fs[i] = 0
  | [], _, _, i, h1, _ => absurd h1 (by simp)
  | _ :: _, [], _, i, _, h2 => absurd h2 (by simp)
  | c :: cs, f :: fs, h, 0, _, _ => by
    unfold errF at h
    split at h
    · assumption
    · contradiction
  | c :: cs, f :: fs, h, i + 1, h1, h2 => by
    unfold errF at h
    split at h
    · exact errF_at cs fs h i (by simpa using h1) (by simpa using h2)
    · contradiction
theorem partsF_at : ∀ (cs : List (Int × Int)) (fs : List (List Gl)) (i : Nat) (h : i < (partsF cs fs).length) (h1 : i < cs.length) (h2 : i < fs.length), (partsF cs fs)[i] = fillM cs[i].2 fs[i]
  | [], _, i, h, h1, _ => absurd h1 (by simp)
  | _ :: _, [], i, h, _, h2 => absurd h2 (by simp)
  | c :: cs, f :: fs, 0, h, _, _ => rfl
  | c :: cs, f :: fs, i + 1, h, h1, h2 => by
    have := partsF_at cs fs i (by simpa [partsF] using h) (by simpa using h1) (by simpa using h2)
    simpa [partsF] using this
theorem tallF_ge0 : ∀ (ps : List (List (List Gl))) (t : Nat), t ≤ tallF t ps
  | [], t => Nat.le_refl _
  | p :: ps, t => by
    have := tallF_ge0 ps (max t p.length)
    unfold tallF
    omega
theorem tallF_ge : ∀ (ps : List (List (List Gl))) (t i : Nat) (h : i < ps.length), ps[i].length ≤ tallF t ps
  | [], t, i, h => absurd h (by simp)
  | p :: ps, t, 0, h => by
    have := tallF_ge0 ps (max t p.length)
    simp only [tallF, List.getElem_cons_zero]
    omega
  | p :: ps, t, i + 1, h => tallF_ge ps _ i (by simpa using h)
theorem rowE_ok {cs : List (Int × Int)} {fs : List (List Gl)} (h : rowE cs fs = 0) : fs.length = cs.length ∧ errF cs fs = 0 := by
  unfold rowE at h
  split at h
  · contradiction
  · rename_i h1
    exact ⟨Classical.byContradiction fun h2 => h1 (.inl h2), h⟩
/-- A row is its cells. -/
theorem cells_row {cs : List (Int × Int)} {fs : List (List Gl)} {e : Int} (he : 0 ≤ e) (hc : FromC e cs) (h : rowE cs fs = 0) {i : Nat} (h1 : i < cs.length) (h2 : i < fs.length) :
    fillE cs[i].2 fs[i] = 0 ∧ (fillL cs[i].2 fs[i]).length ≤ (rowL cs fs).length ∧ ∀ k, k < (rowL cs fs).length → trimM (cutP cs[i].1 cs[i].2 0 ((rowL cs fs).getD k [])) = if k < (fillL cs[i].2 fs[i]).length then trimM ((fillL cs[i].2 fs[i]).getD k []) else [] := by
  obtain ⟨hl, hE⟩ := rowE_ok h
  have e1 := errF_at cs fs hE i h1 h2
  have hpl := partsF_len cs fs hl.symm
  have e2 := partsF_at cs fs i (by omega) h1 h2
  have e3 : fillL cs[i].2 fs[i] = (partsF cs fs)[i]'(by omega) := by rw [e2]; unfold fillL; rw [if_pos e1]
  have e4 : rowL cs fs = rowF [] cs fs := by unfold rowL; rw [if_pos h]
  obtain ⟨r1, r2⟩ := rowF_lines cs fs [] hl.symm
  have hg := tallF_ge (partsF cs fs) 0 i (by omega)
  refine ⟨e1, by rw [e3, e4, r1]; exact hg, fun k hk => ?_⟩
  rw [e3, e4, r2 k]
  exact cut_col k cs (partsF cs fs) _ e hc (fit_parts cs fs hE) (by simp; exact lineOk_nil he) hpl.symm i h1 (by omega)
/-- Of one column at the left the row's lines are its own. -/
theorem row_one {w : Int} {f : List Gl} (h : rowE [(0, w)] [f] = 0) : rowL [(0, w)] [f] = fillL w f := by
  obtain ⟨_, hE⟩ := rowE_ok h
  have e1 := errF_at [(0, w)] [f] hE 0 (by simp) (by simp)
  simp only [List.getElem_cons_zero] at e1
  unfold rowL fillL
  rw [if_pos h, if_pos e1, rowF_eq (by simp)]
  simp only [partsF, tallF, lineF]
  apply List.ext_getElem
  · simp
  · intro j h1 h2
    simp only [List.getElem_map, List.getElem_range]
    rw [if_pos h2, List.getD_eq_getElem?_getD, List.getElem?_eq_getElem h2]
    simp [putLine, wid]
end Go.Proofs.Ytadecjjbpoaooaa.Tb
