/- Layer 13, plain: with other styles texts, widths and links stay. -/
import Derived.Test.YtjohhahfpgfjdaaGreatDoorK37
namespace Go.Proofs.YtjohhahfpgfjdaaGreatDoor.Tb
set_option linter.unusedVariables false
set_option linter.unusedSimpArgs false
/-- A glyph without its look. -/
def er (g : Gl) : Gl := ⟨g.t, g.wd, 0, 0, g.lk⟩
theorem fit_er (wide : Int) (g : Gl) : fitG wide (er g) = er (fitG wide g) := by
  unfold fitG
  show (if wide < g.wd then _ else _) = _
  split <;> rfl
theorem wid_er : ∀ l : List Gl, wid (l.map er) = wid l
  | [] => rfl
  | g :: l => by
    simp only [List.map_cons, wid, wid_er l]
    rfl
def erS (s : Fs) : Fs := ⟨s.out.map (List.map er), s.line.map er, s.wait.map er⟩
theorem end_er (s : Fs) : endS (erS s) = erS (endS s) := by simp [endS, erS]
theorem endU_er (s : Fs) : endU (erS s) = erS (endU s) := by
  unfold endU
  by_cases h : s.line = []
  · rw [if_pos h, if_pos (by simp [erS, h])]
  · rw [if_neg h, if_neg (by simpa [erS] using h), end_er]
theorem put_er (s : Fs) (g : Gl) : putS (erS s) (er g) = erS (putS s g) := by simp [putS, erS]
theorem sign_er (wide : Int) (s : Fs) (g : Gl) : signS wide (erS s) (er g) = erS (signS wide s g) := by
  unfold signS
  have e : wid (erS s).line + (er g).wd = wid s.line + g.wd := by
    show wid (s.line.map er) + g.wd = _
    rw [wid_er]
  rw [e]
  split
  · rw [end_er, put_er]
  · rw [put_er]
theorem foldl_er (wide : Int) : ∀ (w : List Gl) (s : Fs), (w.map er).foldl (signS wide) (erS s) = erS (w.foldl (signS wide) s)
  | [], s => rfl
  | g :: w, s => by
    rw [List.map_cons, List.foldl_cons, sign_er, foldl_er wide w, List.foldl_cons]
theorem room_er (wide : Int) (s : Fs) (w : List Gl) : roomS wide (erS s) (w.map er) = erS (roomS wide s w) := by
  unfold roomS
  have e : wid (erS s).line + wid (erS s).wait + wid (w.map er) = wid s.line + wid s.wait + wid w := by
    show wid (s.line.map er) + wid (s.wait.map er) + wid (w.map er) = _
    rw [wid_er, wid_er, wid_er]
  rw [e]
  split
  · exact endU_er s
  · rfl
theorem laid_er (s : Fs) : laidS (erS s) = erS (laidS s) := by simp [laidS, erS]
theorem word_er (wide : Int) (s : Fs) (w : List Gl) : wordS wide (erS s) (w.map er) = erS (wordS wide s w) := by
  unfold wordS
  rw [room_er, laid_er, foldl_er]
theorem stop_er (s : Fs) : stopOf (erS s) = stopOf s := by
  unfold stopOf
  rw [show wid (erS s).line = wid s.line from wid_er _]
theorem tab_er (wide : Int) (s : Fs) (g : Gl) : tabS wide (erS s) (er g) = erS (tabS wide s g) := by
  unfold tabS
  rw [stop_er, show wid (erS s).line = wid s.line from wid_er _]
  split
  · show (⟨s.out.map (List.map er), s.line.map er ++ List.replicate (stopOf s - wid s.line).toNat (er (blank g)), []⟩ : Fs) = _
    unfold erS
    simp only [List.map_append, List.map_replicate, List.map_nil]
  · exact end_er s
theorem wait_er (s : Fs) (g : Gl) : waitS (erS s) (er g) = erS (waitS s g) := by
  unfold waitS
  by_cases h : s.line ≠ [] ∧ s.wait = []
  · rw [if_pos h, if_pos ⟨by simpa [erS] using h.1, by simpa [erS] using h.2⟩]
    rfl
  · rw [if_neg h, if_neg (fun e => h ⟨by simpa [erS] using e.1, by simpa [erS] using e.2⟩)]
theorem step_er (wide : Int) (s : Fs) (g : Gl) : stepS wide (erS s) (er g) = erS (stepS wide s g) := by
  unfold stepS
  show (if isB g then _ else if isT g then _ else _) = _
  split
  · exact wait_er s g
  · split
    · exact tab_er wide s g
    · exact end_er s
theorem firstW_er (l : List Gl) : firstW (l.map er) = (firstW l).map er := by
  unfold firstW
  rw [List.takeWhile_map]
  rfl
theorem run_er (wide : Int) : ∀ (n : Nat) (s : Fs) (l : List Gl), runS wide n (erS s) (l.map er) = erS (runS wide n s l)
  | 0, s, l => rfl
  | n + 1, s, [] => rfl
  | n + 1, s, g :: l => by
    have e1 : firstW (er g :: l.map er) = (firstW (g :: l)).map er := firstW_er (g :: l)
    have e2 : (er g :: l.map er) = (g :: l).map er := rfl
    rw [List.map_cons]
    unfold runS
    show (if sgn g then _ else _) = _
    split
    · rw [e1, List.length_map, e2, ← List.map_drop, ← run_er wide n, ← word_er, List.map_map, List.map_map]
      congr 3
      funext x
      exact fit_er wide x
    · rw [step_er, run_er wide n]
theorem fillM_er (wide : Int) (l : List Gl) : fillM wide (l.map er) = (fillM wide l).map (List.map er) := by
  unfold fillM
  rw [List.length_map, show fs0 = erS fs0 from rfl, run_er, endU_er]
  rfl
theorem fillE_er (wide : Int) (l : List Gl) : fillE wide (l.map er) = fillE wide l := by
  unfold fillE
  rw [List.any_map]
  rfl
theorem fillL_er (wide : Int) (l : List Gl) : fillL wide (l.map er) = (fillL wide l).map (List.map er) := by
  unfold fillL
  rw [fillE_er]
  split
  · exact fillM_er wide l
  · rfl
section
variable {l l' : List Gl} {r r' : List (List Gl)}
theorem fillM_same (wide : Int) (h : l.map er = l'.map er) : (fillM wide l).map (List.map er) = (fillM wide l').map (List.map er) := by rw [← fillM_er, h, fillM_er]
theorem fillL_same (wide : Int) (h : l.map er = l'.map er) : (fillL wide l).map (List.map er) = (fillL wide l').map (List.map er) := by rw [← fillL_er, h, fillL_er]
theorem fillE_same (wide : Int) (h : l.map er = l'.map er) : fillE wide l = fillE wide l' := by rw [← fillE_er, h, fillE_er]
theorem wid_same (h : l.map er = l'.map er) : wid l = wid l' := by rw [← wid_er, h, wid_er]
theorem getD_er (r : List (List Gl)) (j : Nat) : (r.getD j []).map er = (r.map (List.map er)).getD j [] := by
  rw [List.getD_eq_getElem?_getD, List.getD_eq_getElem?_getD, List.getElem?_map]
  cases r[j]? <;> rfl
theorem len_same (h : r.map (List.map er) = r'.map (List.map er)) : r.length = r'.length := by
  have := congrArg List.length h
  simpa using this
end
theorem putLine_same {a : Int} {r r' l l' : List Gl} (h1 : r.map er = r'.map er) (h2 : l.map er = l'.map er) : (putLine r a l).map er = (putLine r' a l').map er := by
  unfold putLine
  rw [wid_same h1]
  simp only [List.map_append, h1, h2]
theorem putB_same {a : Int} {r r' l l' : List (List Gl)} (h1 : r.map (List.map er) = r'.map (List.map er)) (h2 : l.map (List.map er) = l'.map (List.map er)) : (putB r l a).map (List.map er) = (putB r' l' a).map (List.map er) := by
  have n1 := len_same h1
  have n2 := len_same h2
  unfold putB putK
  rw [List.map_map, List.map_map, n1, n2]
  refine List.map_congr_left fun j hj => ?_
  have e1 : (r.getD j []).map er = (r'.getD j []).map er := by rw [getD_er, h1, getD_er]
  have e2 : (l.getD j []).map er = (l'.getD j []).map er := by rw [getD_er, h2, getD_er]
  show (putAt r l a l'.length j).map er = (putAt r' l' a l'.length j).map er
  unfold putAt
  rw [n2]
  split
  · exact putLine_same e1 e2
  · exact e1
theorem rowF_same : ∀ (cs : List (Int × Int)) (f f' a a' : List (List Gl)), f.map (List.map er) = f'.map (List.map er) → a.map (List.map er) = a'.map (List.map er) → (rowF a cs f).map (List.map er) = (rowF a' cs f').map (List.map er)
  | [], f, f', a, a', _, h => by
    have e1 : rowF a [] f = a := by cases f <;> rfl
    have e2 : rowF a' [] f' = a' := by cases f' <;> rfl
    rw [e1, e2]; exact h
  | c :: cs, [], f', a, a', h1, h => by
    have : f' = [] := by cases f' with
      | nil => rfl
      | cons _ _ => simp at h1
    subst this
    exact h
  | c :: cs, x :: f, [], a, a', h1, h => by simp at h1
  | c :: cs, x :: f, x' :: f', a, a', h1, h => by
    simp only [List.map_cons, List.cons.injEq] at h1
    exact rowF_same cs f f' _ _ h1.2 (putB_same h (fillM_same c.2 h1.1))
theorem errF_same : ∀ (cs : List (Int × Int)) (f f' : List (List Gl)), f.map (List.map er) = f'.map (List.map er) → errF cs f = errF cs f'
  | [], f, f', _ => by
    have e1 : errF [] f = 0 := by cases f <;> rfl
    have e2 : errF [] f' = 0 := by cases f' <;> rfl
    rw [e1, e2]
  | c :: cs, [], f', h1 => by
    have : f' = [] := by cases f' with
      | nil => rfl
      | cons _ _ => simp at h1
    subst this
    rfl
  | c :: cs, x :: f, [], h1 => by simp at h1
  | c :: cs, x :: f, x' :: f', h1 => by
    simp only [List.map_cons, List.cons.injEq] at h1
    show (if fillE c.2 x = 0 then errF cs f else fillE c.2 x) = (if fillE c.2 x' = 0 then errF cs f' else fillE c.2 x')
    rw [fillE_same c.2 h1.1, errF_same cs f f' h1.2]
theorem rowL_same {cs : List (Int × Int)} {f f' : List (List Gl)} (h : f.map (List.map er) = f'.map (List.map er)) : (rowL cs f).map (List.map er) = (rowL cs f').map (List.map er) := by
  have e : rowE cs f = rowE cs f' := by
    unfold rowE
    rw [len_same h, errF_same cs f f' h]
  unfold rowL
  rw [e]
  split
  · exact rowF_same cs f f' [] [] h rfl
  · rfl
/-- Alike but for looks. -/
structure LyE (a b : Ly) : Prop where
  sg : a.sg = b.sg
  pl : a.pl = b.pl
  ls : a.ls.map (List.map er) = b.ls.map (List.map er)
  more : a.more = b.more
  lk : a.lk = b.lk
  link : a.link = b.link
  lo : a.lo.map (·.2) = b.lo.map (·.2)
  mg : a.mg = b.mg
  li : a.li = b.li
  co : a.co = b.co
  ce : a.ce.map (List.map er) = b.ce.map (List.map er)
  fl : a.fl.map er = b.fl.map er
  ah : a.ah = b.ah
section
variable {a b : Ly}
theorem LyE.tell (h : LyE a b) {l l' : List Gl} (hl : l.map er = l'.map er) : LyE (tellY a l) (tellY b l') := by
  unfold tellY
  rw [len_same h.ls]
  split
  · exact ⟨h.sg, h.pl, h.ls, rfl, h.lk, h.link, h.lo, h.mg, h.li, h.co, h.ce, h.fl, h.ah⟩
  · exact ⟨h.sg, h.pl, by simp only [List.map_append, List.map_cons, List.map_nil, h.ls, hl], h.more, h.lk, h.link, h.lo, h.mg, h.li, h.co, h.ce, h.fl, h.ah⟩
theorem LyE.free (h : LyE a b) : LyE (freeY a) (freeY b) := ⟨rfl, rfl, h.ls, h.more, h.lk, h.link, h.lo, h.mg, h.li, h.co, h.ce, h.fl, h.ah⟩
theorem LyE.lead (h : LyE a b) : leadY a = leadY b := by unfold leadY; rw [h.pl, h.sg]
theorem LyE.settle (h : LyE a b) : LyE (settleY a) (settleY b) := by
  unfold settleY
  rw [h.sg]
  split
  · exact h
  · exact h.free.tell (by rw [h.lead])
theorem LyE.line (h : LyE a b) {l l' : List Gl} (hl : l.map er = l'.map er) : LyE (lineY a l) (lineY b l') := by
  unfold lineY
  refine h.free.tell ?_
  rw [h.lead, h.mg]
  simp only [List.map_append, hl]
theorem LyE.foldl {f : Ly → List Gl → Ly} (hf : ∀ {a b : Ly} {l l' : List Gl}, LyE a b → l.map er = l'.map er → LyE (f a l) (f b l')) : ∀ (ls ls' : List (List Gl)) {a b : Ly}, LyE a b → ls.map (List.map er) = ls'.map (List.map er) → LyE (ls.foldl f a) (ls'.foldl f b)
  | [], [], _, _, h, _ => h
  | [], _ :: _, _, _, _, e => by simp at e
  | _ :: _, [], _, _, _, e => by simp at e
  | l :: ls, l' :: ls', a, b, h, e => by
    simp only [List.map_cons, List.cons.injEq] at e
    exact LyE.foldl hf ls ls' (hf h e.1) e.2
theorem LyE.lines (h : LyE a b) {ls ls' : List (List Gl)} (hl : ls.map (List.map er) = ls'.map (List.map er)) : LyE (linesY a ls) (linesY b ls') := by
  unfold linesY
  rw [len_same hl]
  refine LyE.foldl (fun h e => h.line e) ls ls' ?_ hl
  split
  · exact h.settle
  · exact h
theorem LyE.off (h : LyE a b) : LyE (offY a) (offY b) := ⟨h.sg, h.pl, h.ls, h.more, h.lk, h.link, by simp only [offY, List.map_dropLast, h.lo], h.mg, h.li, h.co, h.ce, h.fl, h.ah⟩
theorem LyE.lay (h : LyE a b) (k k' : S6.Lk) (f : Bool) : LyE (layY a k f) (layY b k' f) := ⟨h.sg, h.pl, h.ls, h.more, h.lk, h.link, by simp only [layY, List.map_append, List.map_cons, List.map_nil, h.lo], h.mg, h.li, h.co, h.ce, h.fl, h.ah⟩
theorem LyE.push (h : LyE a b) {l l' : List Gl} (hl : l.map er = l'.map er) : LyE { a with fl := a.fl ++ l } { b with fl := b.fl ++ l' } := ⟨h.sg, h.pl, h.ls, h.more, h.lk, h.link, h.lo, h.mg, h.li, h.co, h.ce, by simp only [List.map_append, h.fl, hl], h.ah⟩
theorem LyE.gl (h : LyE a b) (t : ByteArray) (w : Int) : er (glY a t w) = er (glY b t w) := by simp only [er, glY, h.link]
theorem LyE.none (h : LyE a b) : LyE { a with fl := [] } { b with fl := [] } := ⟨h.sg, h.pl, h.ls, h.more, h.lk, h.link, h.lo, h.mg, h.li, h.co, h.ce, rfl, h.ah⟩
theorem LyE.row (h : LyE a b) : LyE (rowY a) (rowY b) := by
  unfold rowY
  rw [len_same h.ce]
  split
  · exact h
  · rw [h.co]
    have := LyE.foldl (f := tellY) (fun h e => h.tell e) (rowL b.co a.ce) (rowL b.co b.ce) h (rowL_same h.ce)
    exact ⟨this.sg, this.pl, this.ls, this.more, this.lk, this.link, this.lo, this.mg, this.li, this.co, rfl, this.fl, this.ah⟩
theorem LyE.last (h : LyE a b) : lastLi a = lastLi b := by unfold lastLi; rw [h.li]
theorem LyE.close (h : LyE a b) : LyE (closeY a) (closeY b) := by
  have e : (a.lo.getLast?.map (·.2)).getD false = (b.lo.getLast?.map (·.2)).getD false := by
    rw [← List.getLast?_map, ← List.getLast?_map, h.lo]
  unfold closeY
  rw [e]
  have ho := h.off
  split
  · exact ⟨ho.sg, ho.pl, ho.ls, ho.more, ho.lk, rfl, ho.lo, ho.mg, ho.li, ho.co, ho.ce, ho.fl, ho.ah⟩
  · exact ho
theorem LyE.step (h : LyE a b) (wd : Int) (ch ch' : List S6.Chg) (x : Opr) : LyE (stepY wd ch a x) (stepY wd ch' b x) := by
  unfold stepY
  by_cases c : x.k = 8
  · rw [if_pos c, if_pos c]
    unfold beginY
    rw [h.ah, h.co]
    refine LyE.lay ?_ _ _ _
    split
    · exact (h.tell (l := []) (l' := []) rfl).none
    · exact h.none
  rw [if_neg c, if_neg c]
  by_cases c : x.k = 1
  · rw [if_pos c, if_pos c]
    refine h.push ?_
    rw [List.map_map, List.map_map]
    exact List.map_congr_left fun y _ => h.gl _ _
  rw [if_neg c, if_neg c]
  by_cases c : x.k = 6
  · rw [if_pos c, if_pos c]
    exact h.push (by simp only [List.map_cons, List.map_nil, h.gl])
  rw [if_neg c, if_neg c]
  by_cases c : x.k = 7
  · rw [if_pos c, if_pos c]
    exact h.push (by simp only [List.map_cons, List.map_nil, h.gl])
  rw [if_neg c, if_neg c]
  by_cases c : x.k = 2
  · rw [if_pos c, if_pos c]
    exact h.lay _ _ _
  rw [if_neg c, if_neg c]
  have hlk : ∀ k : Int, LyE (linkY a k x.n) (linkY b k x.n) := fun k => by
    unfold linkY
    refine LyE.lay ?_ _ _ _
    exact ⟨h.sg, h.pl, h.ls, h.more, by simp only [h.lk], by simp only [h.lk], h.lo, h.mg, h.li, h.co, h.ce, h.fl, h.ah⟩
  by_cases c : x.k = 3
  · rw [if_pos c, if_pos c]
    exact hlk 0
  rw [if_neg c, if_neg c]
  by_cases c : x.k = 4
  · rw [if_pos c, if_pos c]
    exact hlk 1
  rw [if_neg c, if_neg c]
  by_cases c : x.k = 5
  · rw [if_pos c, if_pos c]
    exact h.close
  rw [if_neg c, if_neg c]
  by_cases c : x.k = 9
  · rw [if_pos c, if_pos c]
    unfold doneY
    rw [h.co, h.mg]
    split
    · exact (h.off.lines (fillL_same _ h.fl)).none
    · have ho := h.off
      exact ⟨ho.sg, ho.pl, ho.ls, ho.more, ho.lk, ho.link, ho.lo, ho.mg, ho.li, ho.co, by simp only [List.map_append, List.map_cons, List.map_nil, h.ce, h.fl], rfl, ho.ah⟩
  rw [if_neg c, if_neg c]
  have hs := h.settle
  by_cases c : x.k = 10
  · rw [if_pos c, if_pos c]
    exact ⟨hs.sg, hs.pl, hs.ls, hs.more, hs.lk, hs.link, hs.lo, hs.mg, by simp only [listY, hs.li, hs.mg], hs.co, hs.ce, hs.fl, hs.ah⟩
  rw [if_neg c, if_neg c]
  by_cases c : x.k = 11
  · rw [if_pos c, if_pos c]
    have hl := hs.last
    exact ⟨by simp only [itemY, hl], by simp only [itemY, hl], hs.ls, hs.more, hs.lk, hs.link, hs.lo, by simp only [itemY, hl], by simp only [itemY, hl, hs.li], hs.co, hs.ce, hs.fl, hs.ah⟩
  rw [if_neg c, if_neg c]
  by_cases c : x.k = 12
  · rw [if_pos c, if_pos c]
    exact ⟨h.sg, h.pl, h.ls, h.more, h.lk, h.link, h.lo, h.mg, h.li, rfl, h.ce, h.fl, h.ah⟩
  rw [if_neg c, if_neg c]
  by_cases c : x.k = 13
  · rw [if_pos c, if_pos c]
    exact h.row
  rw [if_neg c, if_neg c]
  by_cases c : x.k = 14
  · rw [if_pos c, if_pos c]
    unfold endY
    rw [h.co]
    split
    · exact ⟨hs.sg, hs.pl, hs.ls, hs.more, hs.lk, hs.link, hs.lo, by simp only [hs.last], by simp only [hs.li], hs.co, hs.ce, hs.fl, hs.ah⟩
    · have hr := h.row
      exact ⟨hr.sg, hr.pl, hr.ls, hr.more, hr.lk, hr.link, hr.lo, hr.mg, hr.li, rfl, hr.ce, hr.fl, hr.ah⟩
  rw [if_neg c, if_neg c]
  exact h
theorem LyE.take (h : LyE a b) (wd : Int) (ch ch' : List S6.Chg) (x : Opr) : LyE (takeY wd ch a x) (takeY wd ch' b x) := by
  have := h.step wd ch ch' x
  exact ⟨this.sg, this.pl, this.ls, this.more, this.lk, this.link, this.lo, this.mg, this.li, this.co, this.ce, this.fl, rfl⟩
end
theorem run_same (wd : Int) (ch ch' : List S6.Chg) : ∀ (l : List Opr) (a b : Ly), LyE a b → LyE (l.foldl (takeY wd ch) a) (l.foldl (takeY wd ch') b)
  | [], a, b, h => h
  | x :: l, a, b, h => run_same wd ch ch' l _ _ (h.take wd ch ch' x)
theorem rectsM_er (row : Int) (l : List Gl) : rectsM row (l.map er) = rectsM row l := by
  unfold rectsM qRun
  rw [List.foldl_map]
  rfl
theorem rectsA_er : ∀ (ls : List (List Gl)) (row : Int), rectsA row (ls.map (List.map er)) = rectsA row ls
  | [], row => rfl
  | l :: ls, row => by
    show rectsM row (l.map er) ++ rectsA (row + 1) (ls.map (List.map er)) = _
    rw [rectsM_er, rectsA_er ls]
    rfl
/-- What LayoutColors asks of two layouts. -/
structure SameE (d d' : Ld) : Prop where
  ls : d.lines.map (List.map er) = d'.lines.map (List.map er)
  more : d.more = d'.more
  rects : d.rects = d'.rects
theorem colors_of {sh sh' : List S6.Sty} {l : List Opr} {tp wd : Int} (h : layE sh l tp wd = 0) (hc : (S6.checkM sh').2 = 0) (hl : sh'.length = sh.length) : layE sh' l tp wd = 0 ∧ SameE (layL sh l tp wd) (layL sh' l tp wd) := by
  have h' : layE sh' l tp wd = 0 := by
    have h2 := h
    unfold layE at h2 ⊢
    rw [hc, hl]
    split at h2
    · cases h2
    · rename_i h3
      rw [if_neg h3]
      split at h2
      · omega
      · simpa using h2
  have hr := run_same wd (chgs sh) (chgs sh') l ly0 ly0 ⟨rfl, rfl, rfl, rfl, rfl, rfl, rfl, rfl, rfl, rfl, rfl, rfl, rfl⟩
  refine ⟨h', ?_⟩
  unfold layL
  rw [if_pos h, if_pos h']
  exact ⟨hr.ls, hr.more, (rectsA_er _ 0).symm.trans ((congrArg (rectsA 0) hr.ls).trans (rectsA_er _ 0))⟩
end Go.Proofs.YtjohhahfpgfjdaaGreatDoor.Tb
