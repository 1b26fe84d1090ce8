/- Layer 13, plain: wider is no longer. -/
import Derived.Test.YtjohhahfpgfjdaaGreatDoorKQh
namespace Go.Proofs.YtjohhahfpgfjdaaGreatDoor.Tb
set_option linter.unusedVariables false
set_option linter.unusedSimpArgs false
theorem word_eq {w : Int} {s : Fs} {x : List Gl} (hi : Inv w s) (hw : 0 ≤ w) (hx : ∀ g ∈ x, 1 ≤ g.wd ∧ g.wd ≤ 2) (hf : wid x ≤ w) :
    wordS w s x = if w < wid s.line + wid s.wait + wid x ∧ s.line ≠ [] then ⟨s.out ++ [s.line], x, []⟩ else ⟨s.out, s.line ++ s.wait ++ x, []⟩ := by
  unfold wordS roomS
  by_cases h1 : w < wid s.line + wid s.wait + wid x
  · rw [if_pos h1]
    by_cases h2 : s.line = []
    · rw [if_neg (fun e => e.2 h2)]
      unfold endU
      rw [if_pos h2, foldl_fits x _ hx (by simp only [laidS]; rw [h2, hi.we h2]; simp [wid]; exact hf)]
      rfl
    · rw [if_pos ⟨h1, h2⟩]
      unfold endU
      rw [if_neg h2, foldl_fits x _ hx (by simp [laidS, endS, wid]; exact hf)]
      simp [laidS, endS]
  · rw [if_neg h1, if_neg (fun e => h1 e.1), foldl_fits x _ hx (by simp only [laidS]; rw [wid_app]; omega)]
    rfl
/-- The second filling is not behind the first. -/
structure Cmp (w1 w2 : Int) (a b : Fs) : Prop where
  i1 : Inv w1 a
  i2 : Inv w2 b
  ln : a.line = [] ↔ b.line = []
  wt : a.wait.length = b.wait.length
  le : b.out.length < a.out.length ∨ (b.out.length = a.out.length ∧ wid b.line ≤ wid a.line)
theorem Cmp.word {w1 w2 : Int} {a b : Fs} (h : Cmp w1 w2 a b) (h0 : 0 ≤ w1) (h12 : w1 ≤ w2) {x : List Gl} (hn : x ≠ []) (hx : ∀ g ∈ x, 1 ≤ g.wd ∧ g.wd ≤ 2) (hf : wid x ≤ w1) : Cmp w1 w2 (wordS w1 a x) (wordS w2 b x) := by
  have f1 : ∀ g ∈ x, (1 ≤ g.wd ∧ g.wd ≤ 2) ∧ g.wd ≤ w1 := fun g hg => by
    refine ⟨hx g hg, ?_⟩
    obtain ⟨p, q, rfl⟩ := List.append_of_mem hg
    rw [wid_app] at hf
    simp only [wid] at hf
    have hp := (wid_ge p fun y hy => hx y (List.mem_append_left _ hy)).1
    have hq := (wid_ge q fun y hy => hx y (List.mem_append_right _ (List.mem_cons_of_mem _ hy))).1
    omega
  have j1 := (wordS_inv h.i1 h0 f1).1
  have j2 := (wordS_inv h.i2 (by omega) fun g hg => ⟨(f1 g hg).1, by have := (f1 g hg).2; omega⟩).1
  have hw := h.wt
  have v1 := h.i1.wwait
  have v2 := h.i2.wwait
  have hc := h.le
  have hwx := (wid_ge x hx).1
  have n1 := h.i1.nn
  have n2 := h.i2.nn
  have hln := h.ln
  rw [word_eq h.i1 h0 hx hf] at j1 ⊢
  rw [word_eq h.i2 (by omega) hx (by omega)] at j2 ⊢
  by_cases c1 : w1 < wid a.line + wid a.wait + wid x ∧ a.line ≠ []
  · by_cases c2 : w2 < wid b.line + wid b.wait + wid x ∧ b.line ≠ []
    · rw [if_pos c1] at j1 ⊢
      rw [if_pos c2] at j2 ⊢
      refine ⟨j1, j2, by simp [hn], rfl, ?_⟩
      simp only [List.length_append, List.length_singleton]
      omega
    · rw [if_pos c1] at j1 ⊢
      rw [if_neg c2] at j2 ⊢
      refine ⟨j1, j2, by simp [hn], rfl, ?_⟩
      simp only [List.length_append, List.length_singleton]
      omega
  · by_cases c2 : w2 < wid b.line + wid b.wait + wid x ∧ b.line ≠ []
    · rw [if_neg c1] at j1 ⊢
      rw [if_pos c2] at j2 ⊢
      refine ⟨j1, j2, by simp [hn], rfl, ?_⟩
      have hnl : a.line ≠ [] := fun e => c2.2 (hln.1 e)
      have c1' : ¬ w1 < wid a.line + wid a.wait + wid x := fun e => c1 ⟨e, hnl⟩
      have c2' := c2.1
      simp only [List.length_append, List.length_singleton]
      rw [wid_app, wid_app]
      omega
    · rw [if_neg c1] at j1 ⊢
      rw [if_neg c2] at j2 ⊢
      refine ⟨j1, j2, by simp [hn], rfl, ?_⟩
      simp only
      rw [wid_app, wid_app, wid_app, wid_app]
      omega
theorem Cmp.wait {w1 w2 : Int} {a b : Fs} (h : Cmp w1 w2 a b) (h0 : 0 ≤ w1) (h12 : w1 ≤ w2) {g : Gl} (hg : isB g = true) : Cmp w1 w2 (stepS w1 a g) (stepS w2 b g) := by
  have j1 := (stepS_inv h.i1 g h0).1
  have j2 := (stepS_inv h.i2 g (by omega)).1
  have e1 : stepS w1 a g = waitS a g := by unfold stepS; rw [if_pos hg]
  have e2 : stepS w2 b g = waitS b g := by unfold stepS; rw [if_pos hg]
  rw [e1] at j1 ⊢
  rw [e2] at j2 ⊢
  have hwe : a.wait = [] ↔ b.wait = [] := by
    rw [← List.length_eq_zero_iff, ← List.length_eq_zero_iff, h.wt]
  have hc : (a.line ≠ [] ∧ a.wait = []) ↔ (b.line ≠ [] ∧ b.wait = []) := by rw [hwe, ne_eq, ne_eq, h.ln]
  unfold waitS at j1 j2 ⊢
  by_cases c : a.line ≠ [] ∧ a.wait = []
  · rw [if_pos c] at j1 ⊢
    rw [if_pos (hc.1 c)] at j2 ⊢
    exact ⟨j1, j2, h.ln, rfl, h.le⟩
  · rw [if_neg c] at j1 ⊢
    rw [if_neg (fun e => c (hc.2 e))] at j2 ⊢
    exact ⟨j1, j2, h.ln, h.wt, h.le⟩
/-- No word is wider, given how wide the word so far is. -/
def okQ (w : Int) : Int → List Gl → Prop
  | _, [] => True
  | n, g :: l => (if isB g then 0 else n + g.wd) ≤ w ∧ okQ w (if isB g then 0 else n + g.wd) l
theorem okQ_drop {w : Int} : ∀ (l : List Gl) (n : Int), okQ w n l → n ≤ w → (∀ g ∈ l, NoTN g) → n + wid (firstW l) ≤ w ∧ okQ w 0 (l.drop (firstW l).length)
  | [], n, _, hn, _ => ⟨by simp [firstW, wid]; exact hn, trivial⟩
  | g :: l, n, h, hn, ht => by
    have hg := ht g (by simp)
    by_cases hb : isB g = true
    · have hs : sgn g = false := by unfold sgn noS; rw [hb]; rfl
      have e : firstW (g :: l) = [] := by unfold firstW; rw [List.takeWhile_cons_of_neg (by simp [hs])]
      rw [e]
      refine ⟨by simp [wid]; exact hn, ?_⟩
      simp only [okQ, hb, if_pos] at h
      show okQ w 0 (g :: l)
      simp only [okQ, hb, if_pos]
      exact h
    · have hb' : isB g = false := by simpa using hb
      have hs : sgn g = true := by unfold sgn noS; rw [hb', hg.1, hg.2]; rfl
      have e : firstW (g :: l) = g :: firstW l := by unfold firstW; rw [List.takeWhile_cons_of_pos hs]
      simp only [okQ, hb', Bool.false_eq_true, if_false] at h
      obtain ⟨i1, i2⟩ := okQ_drop l (n + g.wd) h.2 h.1 fun x hx => ht x (List.mem_cons_of_mem _ hx)
      rw [e]
      exact ⟨by simp only [wid]; omega, by simpa using i2⟩
theorem cmp_run {w1 w2 : Int} (h2 : 2 ≤ w1) (h12 : w1 ≤ w2) : ∀ (n : Nat) (l : List Gl) (a b : Fs), l.length ≤ n → Cmp w1 w2 a b → (∀ g ∈ l, NoTN g ∧ badG g = false) → okQ w1 0 l → Cmp w1 w2 (runF w1 a l) (runF w2 b l)
  | n, [], a, b, _, h, _, _ => h
  | 0, _ :: _, a, b, hn, _, _, _ => by simp at hn
  | n + 1, g :: l, a, b, hn, h, hl, ho => by
    by_cases hs : sgn g = true
    · have hp := firstW_pos (l := l) hs
      obtain ⟨o1, o2⟩ := okQ_drop (g :: l) 0 ho (by omega) fun x hx => (hl x hx).1
      have hx : ∀ x ∈ firstW (g :: l), 1 ≤ x.wd ∧ x.wd ≤ 2 := fun x hx => by
        have h1 := (hl x (firstW_sub _ x hx)).2
        have h2 := firstW_all _ x hx
        unfold badG at h1
        unfold sgn at h2
        rw [h2] at h1
        simp at h1
        exact h1.2
      have e1 : ∀ w : Int, 2 ≤ w → (firstW (g :: l)).map (fitG w) = firstW (g :: l) := fun w hw => by
        conv => rhs; rw [← List.map_id (firstW (g :: l))]
        refine List.map_congr_left fun x hx' => ?_
        have := (hx x hx').2
        unfold fitG
        rw [if_neg (by omega)]
        rfl
      rw [runF_word _ _ _ _ hs, runF_word _ _ _ _ hs, e1 w1 h2, e1 w2 (by omega)]
      refine cmp_run h2 h12 n _ _ _ ?_ (h.word (by omega) h12 ?_ hx (by omega)) (fun x hx => hl x (List.mem_of_mem_drop hx)) o2
      · rw [List.length_drop]; simp only [List.length_cons] at hn ⊢; omega
      · intro e; rw [e] at hp; simp at hp
    · have hs' : sgn g = false := by simpa using hs
      have hb : isB g = true := by
        have h1 := (hl g (by simp)).1
        unfold sgn noS at hs'
        rw [h1.1, h1.2] at hs'
        simpa using hs'
      rw [runF_step _ _ _ _ hs', runF_step _ _ _ _ hs']
      simp only [okQ, hb, if_pos] at ho
      exact cmp_run h2 h12 n l _ _ (by simpa using hn) (h.wait (by omega) h12 hb) (fun x hx => hl x (List.mem_cons_of_mem _ hx)) ho.2
theorem fill_wider {w1 w2 : Int} (h2 : 2 ≤ w1) (h12 : w1 ≤ w2) (h200 : w2 ≤ 200) {l : List Gl} (hl : ∀ g ∈ l, NoTN g ∧ badG g = false) (ho : okQ w1 0 l) : (fillL w2 l).length ≤ (fillL w1 l).length := by
  have he : ∀ w : Int, 2 ≤ w → w ≤ 200 → fillE w l = 0 := fun w a b => by
    unfold fillE
    rw [if_neg (by omega), if_neg]
    simp only [List.any_eq_true, not_exists, not_and]
    intro g hg
    rw [(hl g hg).2]
    simp
  have hm : ∀ s : Fs, (endU s).out.length = meas s := fun s => by
    unfold endU meas
    split
    · rfl
    · simp [endS]
  have h := cmp_run h2 h12 l.length l fs0 fs0 (Nat.le_refl _) ⟨inv0 (by omega), inv0 (by omega), Iff.rfl, rfl, .inr ⟨rfl, Int.le_refl _⟩⟩ hl ho
  unfold fillL
  rw [he w1 h2 (by omega), he w2 (by omega) h200, if_pos rfl, if_pos rfl, fillM_eq, fillM_eq, hm, hm]
  have h1 := h.ln
  have h3 := h.le
  unfold meas
  split <;> split
  · omega
  · rename_i c1 c2; exact absurd (h1.2 c1) c2
  · rename_i c1 c2; exact absurd (h1.1 c2) c1
  · omega
theorem fold_len : ∀ (ls : List (List Gl)) (y : Ly), y.ls.length ≤ 2000 → (ls.foldl lineY y).ls.length = min 2000 (y.ls.length + ls.length)
  | [], y, h => by simp; omega
  | l :: ls, y, h => by
    have e : (lineY y l).ls.length = min 2000 (y.ls.length + 1) := by
      unfold lineY tellY
      show (if y.ls.length = 2000 then _ else _ : Ly).ls.length = _
      split
      · show y.ls.length = _; omega
      · simp [freeY]; omega
    rw [List.foldl_cons, fold_len ls _ (by omega), e, List.length_cons]
    omega
/-- A paragraph of one text. -/
def onePara (s : ByteArray) : List Opr := [⟨8, -1, .empty, []⟩, ⟨1, 0, s, []⟩, ⟨9, 0, .empty, []⟩]
def yPara : Ly := layY { ly0 with fl := [] } plainK false
def flowOf (s : ByteArray) : List Gl := (cells s).map (celG { yPara with ah := 8 } s)
theorem one_lines {s : ByteArray} (wd : Int) : (runY wd (chgs []) (onePara s)).ls.length = min 2000 (fillL wd (flowOf s)).length := by
  have e0 : beginY (chgs []) ly0 (-1) = yPara := by
    unfold beginY
    rw [if_neg (by simp [ly0])]
    rfl
  unfold runY onePara
  rw [List.foldl_cons, List.foldl_cons, List.foldl_cons, List.foldl_nil, takeY_8, e0, takeY_1, takeY_9]
  obtain ⟨y, hy⟩ : ∃ y : Ly, { textY { yPara with ah := 8 } s with ah := 1 } = y := ⟨_, rfl⟩
  have f1 : y.fl = flowOf s := by rw [← hy]; rfl
  have f2 : y.co.length = 0 := by rw [← hy]; rfl
  have f3 : y.mg = 0 := by rw [← hy]; rfl
  have f4 : y.sg.size = 0 := by rw [← hy]; rfl
  have f5 : y.ls = [] := by rw [← hy]; rfl
  rw [hy]
  have ed : doneY wd y = { linesY (offY y) (fillL (wd - y.mg) y.fl) with fl := [] } := by unfold doneY; rw [if_pos f2]
  rw [ed, f1, f3, Int.sub_zero]
  show (linesY (offY y) (fillL wd (flowOf s))).ls.length = _
  have es : settleY (offY y) = offY y := by unfold settleY; rw [if_pos (show (offY y).sg.size = 0 from f4)]
  unfold linesY
  rw [es, ite_self, fold_len _ _ (by show y.ls.length ≤ 2000; rw [f5]; simp)]
  show min 2000 (y.ls.length + _) = _
  rw [f5, List.length_nil, Nat.zero_add]
theorem one_err {s : ByteArray} {wd : Int} (hw : 10 ≤ wd ∧ wd ≤ 200) (hp : Ir.plainB s = true) (h0 : 0 < s.size) (h1 : s.size ≤ 5000) : layE [] (onePara s) 0 wd = 0 := by
  have hc : (S6.checkM []).2 = 0 := by decide +kernel
  have hz : decide (s.size = 0) = false := decide_eq_false (by omega)
  have hsz : Ir.sumT (onePara s) = s.size := by simp [onePara, Ir.sumT]
  have hk : (Ir.chkM (onePara s) 0 0).2 = 0 := by
    unfold Ir.chkM
    rw [hsz, show (onePara s).length = 3 from rfl, if_neg (by omega)]
    unfold onePara
    have hne : s ≠ ByteArray.empty := fun e => by rw [e] at h0; exact absurd h0 (by decide)
    simp [Ir.runM, Ir.fitB, mayS, takeS, wk0, hp, hz, hne, endedB, mapTop]
  unfold layE
  rw [if_neg (by omega), hc, if_neg (by simp), show (((([] : List S6.Sty).length : Nat) : Int)) = 0 from rfl, hk, if_neg (by simp), if_neg (by omega)]
/-- What LayoutWider asks of two layouts. -/
theorem wider_of {s : ByteArray} {w1 w2 : Int} (hw : 10 ≤ w1) (h12 : w1 ≤ w2) (h200 : w2 ≤ 200) (hp : Ir.plainB s = true) (h0 : 0 < s.size) (h1 : s.size ≤ 5000) (ho : okQ w1 0 (flowOf s)) :
    layE [] (onePara s) 0 w1 = 0 ∧ layE [] (onePara s) 0 w2 = 0 ∧ (layL [] (onePara s) 0 w2).lines.length ≤ (layL [] (onePara s) 0 w1).lines.length ∧ (layL [] (onePara s) 0 w1).lines.length ≤ 2000 := by
  have e1 := one_err (s := s) (wd := w1) ⟨hw, by omega⟩ hp h0 h1
  have e2 := one_err (s := s) (wd := w2) ⟨by omega, h200⟩ hp h0 h1
  refine ⟨e1, e2, ?_⟩
  unfold layL
  rw [if_pos e1, if_pos e2]
  show (runY w2 (chgs []) (onePara s)).ls.length ≤ (runY w1 (chgs []) (onePara s)).ls.length ∧ (runY w1 (chgs []) (onePara s)).ls.length ≤ 2000
  rw [one_lines, one_lines]
  have := fill_wider (w1 := w1) (w2 := w2) (by omega) h12 h200 (l := flowOf s) (fun g hg => by
    obtain ⟨c, hc, rfl⟩ := List.mem_map.1 hg
    obtain ⟨a1, a2, a3⟩ := celG_ok (y := { yPara with ah := 8 }) hp c hc
    exact ⟨⟨a1, a2⟩, a3⟩) ho
  omega
end Go.Proofs.YtjohhahfpgfjdaaGreatDoor.Tb
