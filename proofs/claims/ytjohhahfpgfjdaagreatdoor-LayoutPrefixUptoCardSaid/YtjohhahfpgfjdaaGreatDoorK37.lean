/- The texts that the laws of layout stand on, part 37. -/
import Derived.Test.YtjohhahfpgfjdaaGreatDoorK7
import Derived.Test.YtjohhahfpgfjdaaGreatDoorK10
import Derived.Test.YtjohhahfpgfjdaaGreatDoorK14
import Derived.Test.YtjohhahfpgfjdaaGreatDoorK20
import Derived.Test.YtjohhahfpgfjdaaGreatDoorK25
import Derived.Test.YtjohhahfpgfjdaaGreatDoorK33
import Derived.Test.YtjohhahfpgfjdaaGreatDoorRows
import Derived.Deep.Strs
import Derived.Deep.Slices
import Derived.Lib.SmallJoins
section
namespace Go.Proofs.YtjohhahfpgfjdaaGreatDoor.Tb
set_option linter.unusedVariables false
set_option linter.unusedSimpArgs false
/-- What no filling breaks. -/
structure Stays (Q : Gl → Prop) : Prop where
  bl : ∀ g, Q g → Q (blank g)
  ft : ∀ wide g, Q g → Q (fitG wide g)
def AllS (Q : Gl → Prop) (s : Fs) : Prop := (∀ r ∈ s.out, ∀ g ∈ r, Q g) ∧ (∀ g ∈ s.line, Q g) ∧ (∀ g ∈ s.wait, Q g)
section
variable {Q : Gl → Prop}
theorem all_end {s : Fs} (h : AllS Q s) : AllS Q (endS s) := by
  refine ⟨fun r hr => ?_, fun g hg => by simp [endS] at hg, fun g hg => by simp [endS] at hg⟩
  rcases List.mem_append.1 hr with hr | hr
  · exact h.1 r hr
  · rw [List.mem_singleton] at hr; subst hr; exact h.2.1
theorem all_endU {s : Fs} (h : AllS Q s) : AllS Q (endU s) := by
  unfold endU
  split
  · exact h
  · exact all_end h
theorem all_put {s : Fs} (h : AllS Q s) {g : Gl} (hg : Q g) : AllS Q (putS s g) := by
  refine ⟨h.1, fun x hx => ?_, h.2.2⟩
  rcases List.mem_append.1 hx with hx | hx
  · exact h.2.1 x hx
  · rw [List.mem_singleton] at hx; subst hx; exact hg
theorem all_sign {wide : Int} {s : Fs} (h : AllS Q s) {g : Gl} (hg : Q g) : AllS Q (signS wide s g) := by
  unfold signS
  split
  · exact all_put (all_end h) hg
  · exact all_put h hg
theorem all_foldl {wide : Int} : ∀ (w : List Gl) (s : Fs), AllS Q s → (∀ g ∈ w, Q g) → AllS Q (w.foldl (signS wide) s)
  | [], s, h, _ => h
  | g :: w, s, h, hw => all_foldl w _ (all_sign h (hw g (by simp))) fun x hx => hw x (List.mem_cons_of_mem _ hx)
theorem all_room {wide : Int} {s : Fs} (h : AllS Q s) (w : List Gl) : AllS Q (roomS wide s w) := by
  unfold roomS
  split
  · exact all_endU h
  · exact h
theorem all_laid {s : Fs} (h : AllS Q s) : AllS Q (laidS s) := by
  refine ⟨h.1, fun x hx => ?_, fun g hg => by simp [laidS] at hg⟩
  rcases List.mem_append.1 hx with hx | hx
  · exact h.2.1 x hx
  · exact h.2.2 x hx
theorem all_step (hQ : Stays Q) {wide : Int} {s : Fs} (h : AllS Q s) {g : Gl} (hg : Q g) : AllS Q (stepS wide s g) := by
  unfold stepS
  split
  · unfold waitS
    split
    · exact ⟨h.1, h.2.1, fun x hx => by simp at hx; subst hx; exact hQ.bl g hg⟩
    · exact h
  · split
    · unfold tabS
      split
      · refine ⟨h.1, fun x hx => ?_, fun x hx => by simp at hx⟩
        rcases List.mem_append.1 hx with hx | hx
        · exact h.2.1 x hx
        · rw [(List.mem_replicate.1 hx).2]; exact hQ.bl g hg
      · exact all_end h
    · exact all_end h
theorem all_run (hQ : Stays Q) {wide : Int} : ∀ (n : Nat) (s : Fs) (l : List Gl), AllS Q s → (∀ g ∈ l, Q g) → AllS Q (runS wide n s l)
  | 0, s, l, h, _ => h
  | n + 1, s, [], h, _ => h
  | n + 1, s, g :: l, h, hl => by
    unfold runS
    split
    · refine all_run hQ n _ _ (all_foldl _ _ (all_laid (all_room h _)) fun x hx => ?_) fun y hy => hl y (List.mem_of_mem_drop hy)
      obtain ⟨y, hy, rfl⟩ := List.mem_map.1 hx
      exact hQ.ft _ _ (hl y (firstW_sub _ y hy))
    · exact all_run hQ n _ _ (all_step hQ h (hl g (by simp))) fun y hy => hl y (List.mem_cons_of_mem _ hy)
theorem fill_all (hQ : Stays Q) {wide : Int} {l : List Gl} (h : ∀ g ∈ l, Q g) : ∀ r ∈ fillL wide l, ∀ g ∈ r, Q g := by
  unfold fillL
  split
  · exact (all_endU (all_run hQ l.length fs0 l ⟨fun r hr => by simp [fs0] at hr, fun r hr => by simp [fs0] at hr, fun r hr => by simp [fs0] at hr⟩ h)).1
  · intro r hr; simp at hr
theorem fillM_all (hQ : Stays Q) {wide : Int} {l : List Gl} (h : ∀ g ∈ l, Q g) : ∀ r ∈ fillM wide l, ∀ g ∈ r, Q g :=
  (all_endU (all_run hQ l.length fs0 l ⟨fun r hr => by simp [fs0] at hr, fun r hr => by simp [fs0] at hr, fun r hr => by simp [fs0] at hr⟩ h)).1
theorem getD_all {rows : List (List Gl)} (h : ∀ r ∈ rows, ∀ g ∈ r, Q g) (j : Nat) : ∀ g ∈ rows.getD j [], Q g := by
  rw [List.getD_eq_getElem?_getD]
  by_cases hj : j < rows.length
  · rw [List.getElem?_eq_getElem hj]
    exact h _ (List.getElem_mem hj)
  · rw [List.getElem?_eq_none (by omega)]
    intro g hg; simp at hg
theorem putB_all (hp : Q plainG) {rows lines : List (List Gl)} {a : Int} (hr : ∀ r ∈ rows, ∀ g ∈ r, Q g) (hl : ∀ r ∈ lines, ∀ g ∈ r, Q g) : ∀ r ∈ putB rows lines a, ∀ g ∈ r, Q g := by
  intro r hm
  obtain ⟨j, _, rfl⟩ := List.mem_map.1 hm
  unfold putAt
  split
  · intro g hg
    unfold putLine at hg
    rcases List.mem_append.1 hg with hg | hg
    · rcases List.mem_append.1 hg with hg | hg
      · exact getD_all hr j g hg
      · rw [(List.mem_replicate.1 hg).2]; exact hp
    · exact getD_all hl j g hg
  · exact getD_all hr j
theorem rowF_all (hQ : Stays Q) (hp : Q plainG) : ∀ (cs : List (Int × Int)) (fs acc : List (List Gl)), (∀ f ∈ fs, ∀ g ∈ f, Q g) → (∀ r ∈ acc, ∀ g ∈ r, Q g) → ∀ r ∈ rowF acc cs fs, ∀ g ∈ r, Q g
  | [], fs, acc, _, ha => by
    have : rowF acc [] fs = acc := by cases fs <;> rfl
    rw [this]; exact ha
  | c :: cs, [], acc, _, ha => ha
  | c :: cs, f :: fs, acc, hf, ha => rowF_all hQ hp cs fs _ (fun x hx => hf x (List.mem_cons_of_mem _ hx)) (putB_all hp ha (fillM_all hQ (hf f (by simp))))
theorem rowL_all (hQ : Stays Q) (hp : Q plainG) {cs : List (Int × Int)} {fs : List (List Gl)} (hf : ∀ f ∈ fs, ∀ g ∈ f, Q g) : ∀ r ∈ rowL cs fs, ∀ g ∈ r, Q g := by
  unfold rowL
  split
  · exact rowF_all hQ hp cs fs [] hf fun r hr => by simp at hr
  · intro r hr; simp at hr
end
/-- Rows fit where their columns end. -/
theorem rowF_fit {D : Int} : ∀ (cs : List (Int × Int)) (fs acc : List (List Gl)) (d : Int), 0 ≤ d → d ≤ D → standF d cs = true → (∀ c ∈ cs, c.1 + c.2 ≤ D) → errF cs fs = 0 → (∀ r ∈ acc, LineOk d r) → ∀ r ∈ rowF acc cs fs, LineOk D r
  | [], fs, acc, d, h0, h2, _, _, _, ha => by
    intro r hr
    have : rowF acc [] fs = acc := by cases fs <;> rfl
    rw [this] at hr
    exact (ha r hr).mono h2
  | c :: cs, [], acc, d, h0, h2, _, _, _, ha => fun r hr => (ha r hr).mono h2
  | c :: cs, f :: fs, acc, d, h0, h2, hs, hD, he, ha => by
    rw [standF_cons] at hs
    simp only [within, Bool.and_eq_true, decide_eq_true_eq] at hs
    obtain ⟨⟨⟨a1, a2⟩, a3, a4⟩, hs⟩ := hs
    have hf : fillE c.2 f = 0 := by
      by_cases h : fillE c.2 f = 0
      · exact h
      · simp only [errF, if_neg h] at he
        exact absurd he h
    have he' : errF cs fs = 0 := by simpa [errF, hf] using he
    have hc := hD c (by simp)
    exact rowF_fit cs fs (putB acc (fillM c.2 f) c.1) (c.1 + c.2) (by omega) (by omega) hs (fun x hx => hD x (List.mem_cons_of_mem _ hx)) he' (putB_ok ha h0 a3 (fill_lines hf) (by omega))
theorem rowL_fit {D : Int} (hD0 : 0 ≤ D) {cs : List (Int × Int)} {fs : List (List Gl)} (hD : ∀ c ∈ cs, c.1 + c.2 ≤ D) : ∀ r ∈ rowL cs fs, LineOk D r := by
  intro r h
  unfold rowL at h
  split at h
  · rename_i h0
    have h1 : standF 0 cs = true ∧ errF cs fs = 0 := by
      unfold rowE at h0
      split at h0
      · cases h0
      · rename_i h2
        refine ⟨?_, h0⟩
        by_cases h3 : standF 0 cs = false
        · exact absurd (.inr (.inr (.inr h3))) h2
        · simpa using h3
    exact rowF_fit cs fs [] 0 (Int.le_refl _) hD0 h1.1 hD h1.2 (fun r hr => by simp at hr) r h
  · simp at h
theorem cols_end {ws : List Int} {wd : Int} (hw : 0 ≤ wd) : ∀ c ∈ colsL ws wd, c.1 + c.2 ≤ wd := by
  by_cases h : colsE ws wd = 0
  · have A := apart_of h
    have key : ∀ (j k : Nat) (hk : k < (colsL ws wd).length), k + j + 1 = (colsL ws wd).length → (colsL ws wd)[k].1 + (colsL ws wd)[k].2 ≤ wd := by
      intro j
      induction j with
      | zero => intro k hk e; exact A.fin k hk (by omega)
      | succ j ih =>
        intro k hk e
        have h1 := A.nxt (k + 1) (by omega)
        rw [dif_neg (by omega)] at h1
        have h2 := ih (k + 1) (by omega) (by omega)
        have h3 := (A.col (k + 1) (by omega)).1
        simp only [Nat.add_sub_cancel] at h1
        omega
    intro c hc
    obtain ⟨k, hk, rfl⟩ := List.mem_iff_getElem.1 hc
    exact key ((colsL ws wd).length - 1 - k) k hk (by omega)
  · intro c hc
    unfold colsL at hc
    rw [if_neg h] at hc
    simp at hc
/-- A glyph's link is one of so many, or none. -/
def Lk (m : Nat) (g : Gl) : Prop := 0 ≤ g.lk ∧ g.lk ≤ m
theorem lk_stays (m : Nat) : Stays (Lk m) := ⟨fun g h => h, fun wide g h => by unfold fitG; split <;> exact h⟩
theorem Lk.mono {m n : Nat} {g : Gl} (h : Lk m g) (hn : m ≤ n) : Lk n g := ⟨h.1, Int.le_trans h.2 (by omega)⟩
theorem lk_plain (m : Nat) : Lk m plainG := ⟨Int.le_refl _, by simp [plainG]⟩
theorem wid_ones : ∀ {l : List Gl}, (∀ g ∈ l, g.wd = 1) → wid l = l.length
  | [], _ => rfl
  | g :: l, h => by
    have h1 := h g (by simp)
    have h2 := wid_ones (l := l) fun x hx => h x (List.mem_cons_of_mem _ hx)
    simp only [wid, List.length_cons]
    omega
/-- Plain glyphs of width 1. -/
def Pl (g : Gl) : Prop := g.wd = 1 ∧ g.lk = 0
theorem blk_pl (n : Int) : ∀ g ∈ blk n, Pl g := fun g hg => by
  unfold blk at hg
  rw [(List.mem_replicate.1 hg).2]
  exact ⟨rfl, rfl⟩
theorem letsL_pl (s : ByteArray) : ∀ g ∈ letsL s, Pl g := fun g hg => by
  obtain ⟨i, _, rfl⟩ := List.mem_map.1 hg
  exact ⟨rfl, rfl⟩
theorem lead_pl (y : Ly) : ∀ g ∈ leadY y, Pl g := fun g hg => by
  rcases List.mem_append.1 hg with hg | hg
  · exact blk_pl _ g hg
  · exact letsL_pl _ g hg
theorem pl_line {e : Int} {l : List Gl} (h : ∀ g ∈ l, Pl g) (he : (l.length : Int) ≤ e) : LineOk e l :=
  ⟨fun g hg => by have := (h g hg).1; omega, by rw [wid_ones fun g hg => (h g hg).1]; exact he⟩
theorem pl_lk {m : Nat} {l : List Gl} (h : ∀ g ∈ l, Pl g) : ∀ g ∈ l, Lk m g := fun g hg => by have := (h g hg).2; exact ⟨by omega, by omega⟩
/-- What holds of a topic's links, widths. -/
structure LyG (wd tp : Int) (y : Ly) : Prop where
  mg : 0 ≤ y.mg ∧ y.mg ≤ wd - 4
  pls : ∀ i ∈ y.li, 0 ≤ i.place ∧ i.place ≤ wd - 4
  ls : ∀ l ∈ y.ls, LineOk wd l
  lls : ∀ l ∈ y.ls, ∀ g ∈ l, Lk y.lk.length g
  fl : ∀ g ∈ y.fl, Lk y.lk.length g
  ce : ∀ f ∈ y.ce, ∀ g ∈ f, Lk y.lk.length g
  link : 0 ≤ y.link ∧ y.link ≤ y.lk.length
  co : ∀ c ∈ y.co, c.1 + c.2 ≤ wd
  lk : ∀ t ∈ y.lk, 0 ≤ t.2 ∧ t.2 < tp
theorem lyG0 {wd tp : Int} (hw : 10 ≤ wd) : LyG wd tp ly0 where
  mg := ⟨Int.le_refl _, by simp [ly0]; omega⟩
  pls := fun i hi => by simp [ly0] at hi
  ls := fun i hi => by simp [ly0] at hi
  lls := fun i hi => by simp [ly0] at hi
  fl := fun i hi => by simp [ly0] at hi
  ce := fun i hi => by simp [ly0] at hi
  link := ⟨Int.le_refl _, Int.le_refl _⟩
  co := fun i hi => by simp [ly0] at hi
  lk := fun i hi => by simp [ly0] at hi
section
variable {wd tp : Int} {y : Ly}
theorem LyG.tell (h : LyG wd tp y) {l : List Gl} (h1 : LineOk wd l) (h2 : ∀ g ∈ l, Lk y.lk.length g) : LyG wd tp (tellY y l) := by
  unfold tellY
  split
  · exact ⟨h.mg, h.pls, h.ls, h.lls, h.fl, h.ce, h.link, h.co, h.lk⟩
  · refine ⟨h.mg, h.pls, fun r hr => ?_, fun r hr => ?_, h.fl, h.ce, h.link, h.co, h.lk⟩
    · rcases List.mem_append.1 hr with hr | hr
      · exact h.ls r hr
      · rw [List.mem_singleton] at hr; subst hr; exact h1
    · rcases List.mem_append.1 hr with hr | hr
      · exact h.lls r hr
      · rw [List.mem_singleton] at hr; subst hr; exact h2
theorem LyG.free (h : LyG wd tp y) : LyG wd tp (freeY y) := ⟨h.mg, h.pls, h.ls, h.lls, h.fl, h.ce, h.link, h.co, h.lk⟩
theorem LyG.settle (h : LyG wd tp y) (hm : MkOk y) : LyG wd tp (settleY y) := by
  unfold settleY
  split
  · exact h
  · have h1 := lead_le hm
    have h2 := h.mg
    exact h.free.tell (pl_line (lead_pl y) (by omega)) (pl_lk (lead_pl y))
theorem LyG.line (h : LyG wd tp y) (hm : MkOk y) {l : List Gl} (h1 : LineOk (wd - y.mg) l) (h2 : ∀ g ∈ l, Lk y.lk.length g) : LyG wd tp (lineY y l) := by
  have a1 := lead_le hm
  have a2 := h.mg
  have hd : ∀ g ∈ (blk y.mg).drop (leadY y).length, Pl g := fun g hg => blk_pl _ g (List.mem_of_mem_drop hg)
  have hdl : ((blk y.mg).drop (leadY y).length).length = y.mg.toNat - (leadY y).length := by
    rw [List.length_drop]
    simp only [blk, List.length_replicate]
  refine h.free.tell ⟨fun g hg => ?_, ?_⟩ fun g hg => ?_
  · rcases List.mem_append.1 hg with hg | hg
    · rcases List.mem_append.1 hg with hg | hg
      · have := (lead_pl y g hg).1; omega
      · have := (hd g hg).1; omega
    · exact h1.1 g hg
  · rw [wid_app, wid_app, wid_ones fun g hg => (lead_pl y g hg).1, wid_ones fun g hg => (hd g hg).1, hdl]
    have := h1.2
    omega
  · rcases List.mem_append.1 hg with hg | hg
    · rcases List.mem_append.1 hg with hg | hg
      · exact pl_lk (lead_pl y) g hg
      · exact pl_lk hd g hg
    · exact h2 g hg
theorem LyG.foldl_line : ∀ (ls : List (List Gl)) (y : Ly), LyG wd tp y → MkOk y → (∀ l ∈ ls, LineOk (wd - y.mg) l) → (∀ l ∈ ls, ∀ g ∈ l, Lk y.lk.length g) → LyG wd tp (ls.foldl lineY y)
  | [], y, h, _, _, _ => h
  | l :: ls, y, h, hm, h1, h2 => by
    have e := sm_line y l
    refine LyG.foldl_line ls (lineY y l) (h.line hm (h1 l (by simp)) (h2 l (by simp))) (hm.line l) (fun r hr => ?_) fun r hr => ?_
    · rw [e.mg]; exact h1 r (List.mem_cons_of_mem _ hr)
    · rw [e.lk]; exact h2 r (List.mem_cons_of_mem _ hr)
theorem LyG.foldl_tell : ∀ (ls : List (List Gl)) (y : Ly), LyG wd tp y → (∀ l ∈ ls, LineOk wd l) → (∀ l ∈ ls, ∀ g ∈ l, Lk y.lk.length g) → LyG wd tp (ls.foldl tellY y)
  | [], y, h, _, _ => h
  | l :: ls, y, h, h1, h2 => by
    have e := sm_tell y l
    refine LyG.foldl_tell ls (tellY y l) (h.tell (h1 l (by simp)) (h2 l (by simp))) (fun r hr => h1 r (List.mem_cons_of_mem _ hr)) fun r hr => ?_
    rw [e.lk]; exact h2 r (List.mem_cons_of_mem _ hr)
theorem LyG.lines (h : LyG wd tp y) (hm : MkOk y) {ls : List (List Gl)} (h1 : ∀ l ∈ ls, LineOk (wd - y.mg) l) (h2 : ∀ l ∈ ls, ∀ g ∈ l, Lk y.lk.length g) : LyG wd tp (linesY y ls) := by
  unfold linesY
  split
  · have e := sm_settle y
    refine LyG.foldl_line ls _ (h.settle hm) hm.settle (fun r hr => ?_) fun r hr => ?_
    · rw [e.mg]; exact h1 r hr
    · rw [e.lk]; exact h2 r hr
  · exact LyG.foldl_line ls y h hm h1 h2
theorem fillL_ok {wide : Int} {l : List Gl} : ∀ r ∈ fillL wide l, LineOk wide r := by
  unfold fillL
  split
  · rename_i h; exact fill_lines h
  · intro r hr; simp at hr
theorem LyG.push (h : LyG wd tp y) {z : List Gl} (hz : ∀ g ∈ z, Lk y.lk.length g) (a : Int) : LyG wd tp { ({ y with fl := y.fl ++ z } : Ly) with ah := a } := by
  refine ⟨h.mg, h.pls, h.ls, h.lls, fun g hg => ?_, h.ce, h.link, h.co, h.lk⟩
  rcases List.mem_append.1 hg with hg | hg
  · exact h.fl g hg
  · exact hz g hg
theorem LyG.row (h : LyG wd tp y) (hw : 0 ≤ wd) : LyG wd tp (rowY y) := by
  unfold rowY
  split
  · exact h
  · have h2 := LyG.foldl_tell (rowL y.co y.ce) y h (rowL_fit hw h.co) (rowL_all (lk_stays _) (lk_plain _) h.ce)
    exact ⟨h2.mg, h2.pls, h2.ls, h2.lls, h2.fl, fun f hf => by simp at hf, h2.link, h2.co, h2.lk⟩
theorem LyG.links (h : LyG wd tp y) (k n : Int) (hn : 0 ≤ n ∧ n < tp) (a : Int) : LyG wd tp { linkY y k n with ah := a } := by
  have hl : (y.lk ++ [(k, n)]).length = y.lk.length + 1 := by simp
  refine ⟨h.mg, h.pls, h.ls, fun r hr g hg => ?_, fun g hg => ?_, fun r hr g hg => ?_, ?_, h.co, fun t ht => ?_⟩
  · exact (h.lls r hr g hg).mono (by simp [linkY, layY])
  · exact (h.fl g hg).mono (by simp [linkY, layY])
  · exact (h.ce r hr g hg).mono (by simp [linkY, layY])
  · simp [linkY, layY]; omega
  · simp only [linkY, layY] at ht
    rcases List.mem_append.1 ht with ht | ht
    · exact h.lk t ht
    · rw [List.mem_singleton] at ht; subst ht; exact hn
end
theorem take_g {s : Wk} {y : Ly} {k T : Nat} {wd tp : Int} {ch : List S6.Chg} {x : Opr} {st : Int} (hw : 10 ≤ wd ∧ wd ≤ 200) (ho : LyOk s y k T) (h : LyG wd tp y) (hf : Ir.fitB x st tp = true) (hm : mayS s x.k = true) : LyG wd tp (takeY wd ch y x) := by
  have hk14 : 1 ≤ x.k ∧ x.k ≤ 14 := by
    by_cases h : 1 ≤ x.k ∧ x.k ≤ 14
    · exact h
    · rw [Ir.may_other h] at hm; cases hm
  obtain ⟨kd, n, t, ws⟩ := x
  dsimp only at hk14 hm ⊢
  have hgl : ∀ (t : ByteArray) (w : Int), Lk y.lk.length (glY y t w) := fun t w => h.link
  have cs : kd = 1 ∨ kd = 2 ∨ kd = 3 ∨ kd = 4 ∨ kd = 5 ∨ kd = 6 ∨ kd = 7 ∨ kd = 8 ∨ kd = 9 ∨ kd = 10 ∨ kd = 11 ∨ kd = 12 ∨ kd = 13 ∨ kd = 14 := by omega
  rcases cs with rfl | rfl | rfl | rfl | rfl | rfl | rfl | rfl | rfl | rfl | rfl | rfl | rfl | rfl
  · rw [takeY_1]
    refine h.push (fun g hg => ?_) 1
    obtain ⟨c, _, rfl⟩ := List.mem_map.1 hg
    exact hgl _ _
  · rw [takeY_2]; exact ⟨h.mg, h.pls, h.ls, h.lls, h.fl, h.ce, h.link, h.co, h.lk⟩
  · rw [takeY_3]
    simp [Ir.fitB] at hf
    exact h.links 0 n hf.1.1 3
  · rw [takeY_4]
    simp [Ir.fitB] at hf
    exact h.links 1 n hf.1.1 4
  · rw [takeY_5]
    unfold closeY offY
    split
    · exact ⟨h.mg, h.pls, h.ls, h.lls, h.fl, h.ce, ⟨Int.le_refl _, by simp⟩, h.co, h.lk⟩
    · exact ⟨h.mg, h.pls, h.ls, h.lls, h.fl, h.ce, h.link, h.co, h.lk⟩
  · rw [takeY_6]; exact h.push (z := [glY y tabB' 1]) (fun g hg => by rw [List.mem_singleton] at hg; subst hg; exact hgl _ _) 6
  · rw [takeY_7]; exact h.push (z := [glY y nlB 1]) (fun g hg => by rw [List.mem_singleton] at hg; subst hg; exact hgl _ _) 7
  · rw [takeY_8]
    have h1 : LyG wd tp (if y.ah = 9 ∧ y.co.length = 0 then tellY y [] else y) := by
      split
      · exact h.tell (lineOk_nil (by omega)) (fun g hg => by simp at hg)
      · exact h
    exact ⟨h1.mg, h1.pls, h1.ls, h1.lls, fun g hg => by simp [beginY, layY] at hg, h1.ce, h1.link, h1.co, h1.lk⟩
  · rw [takeY_9]
    unfold doneY
    split
    · have h0 : LyG wd tp (offY y) := ⟨h.mg, h.pls, h.ls, h.lls, h.fl, h.ce, h.link, h.co, h.lk⟩
      have h1 := h0.lines (ho.mok.like rfl rfl rfl rfl) (ls := fillL (wd - y.mg) y.fl) fillL_ok (fill_all (lk_stays _) h.fl)
      exact ⟨h1.mg, h1.pls, h1.ls, h1.lls, fun g hg => by simp at hg, h1.ce, h1.link, h1.co, h1.lk⟩
    · refine ⟨h.mg, h.pls, h.ls, h.lls, fun g hg => by simp at hg, fun f hf => ?_, h.link, h.co, h.lk⟩
      simp only [offY] at hf
      rcases List.mem_append.1 hf with hf | hf
      · exact h.ce f hf
      · rw [List.mem_singleton] at hf; subst hf; exact h.fl
  · rw [takeY_10]
    have h1 := h.settle ho.mok
    refine ⟨h1.mg, fun i hi => ?_, h1.ls, h1.lls, h1.fl, h1.ce, h1.link, h1.co, h1.lk⟩
    simp only [listY] at hi
    rcases List.mem_append.1 hi with hi | hi
    · exact h1.pls i hi
    · rw [List.mem_singleton] at hi; subst hi; exact h1.mg
  · rw [takeY_11]
    simp [mayS] at hm
    have hl := ho.lists hm.2
    have h0 : 0 < y.li.length := by rw [hl.2.1]; exact hm.1.2
    have h1 := h.settle ho.mok
    have e := sm_settle y
    have hlast : lastLi (settleY y) = lastLi y := by unfold lastLi; rw [e.li]
    have hp := h.pls _ (lastLi_mem h0)
    refine ⟨?_, fun i hi => ?_, h1.ls, h1.lls, h1.fl, h1.ce, h1.link, h1.co, h1.lk⟩
    · simp only [itemY, hlast]
      omega
    · simp only [itemY] at hi
      rcases List.mem_append.1 hi with hi | hi
      · exact h1.pls i (List.dropLast_subset _ hi)
      · rw [List.mem_singleton] at hi; subst hi
        rw [hlast]
        exact hp
  · rw [takeY_12]
    exact ⟨h.mg, h.pls, h.ls, h.lls, h.fl, h.ce, h.link, cols_end (by omega), h.lk⟩
  · rw [takeY_13]
    have h1 := h.row (by omega)
    exact ⟨h1.mg, h1.pls, h1.ls, h1.lls, h1.fl, h1.ce, h1.link, h1.co, h1.lk⟩
  · rw [takeY_14]
    simp [mayS] at hm
    unfold endY
    split
    · rename_i hc
      have h0 : 0 < y.li.length := by
        rcases ho.kind with ⟨k1, k2, k3⟩ | ⟨k1, k2, k3, k4⟩
        · have := hm.1.2; omega
        · omega
      have h1 := h.settle ho.mok
      have e := sm_settle y
      have hlast : lastLi (settleY y) = lastLi y := by unfold lastLi; rw [e.li]
      have hp := h.pls _ (lastLi_mem h0)
      refine ⟨?_, fun i hi => ?_, h1.ls, h1.lls, h1.fl, h1.ce, h1.link, h1.co, h1.lk⟩
      · simp only [hlast]; exact hp
      · exact h1.pls i (List.dropLast_subset _ hi)
    · have h1 := h.row (by omega)
      exact ⟨h1.mg, h1.pls, h1.ls, h1.lls, h1.fl, h1.ce, h1.link, fun c hc => by simp at hc, h1.lk⟩
/-- What holds at the end. -/
theorem run_g {wd tp : Int} {ch : List S6.Chg} {st : Int} (hw : 10 ≤ wd ∧ wd ≤ 200) : ∀ (l : List Opr) (s : Wk) (y : Ly) (k T i : Nat), LyOk s y k T → LyG wd tp y → (Ir.runM st tp l s i).2 = 0 → ∃ s' k' T', LyOk s' (l.foldl (takeY wd ch) y) k' T' ∧ LyG wd tp (l.foldl (takeY wd ch) y) ∧ endedB s' = true
  | [], s, y, k, T, i, ho, h, hr => by
    refine ⟨s, k, T, ho, h, ?_⟩
    cases e : endedB s with
    | true => rfl
    | false => unfold Ir.runM at hr; rw [e] at hr; simp at hr
  | x :: l, s, y, k, T, i, ho, h, hr => by
    unfold Ir.runM at hr
    cases e : (Ir.fitB x st tp && mayS s x.k) with
    | false => rw [e] at hr; simp at hr
    | true =>
      rw [e, if_pos rfl] at hr
      rw [Bool.and_eq_true] at e
      exact run_g hw l _ _ _ _ _ (take_ok hw ho e.1 e.2) (take_g hw ho h e.1 e.2) hr
theorem layL_ok {sh : List S6.Sty} {l : List Opr} {tp wd : Int} (h : layE sh l tp wd = 0) : (10 ≤ wd ∧ wd ≤ 200) ∧ l.length ≤ 65536 ∧ Ir.sumT l ≤ 16384 ∧ (Ir.runM sh.length tp l wk0 0).2 = 0 := by
  unfold layE at h
  split at h
  · cases h
  · split at h
    · omega
    · split at h
      · omega
      · rename_i h1 h2 h3
        have h3' : (Ir.chkM l sh.length tp).2 = 0 := by omega
        unfold Ir.chkM at h3'
        split at h3'
        · simp at h3'
        · rename_i h4
          exact ⟨by omega, by omega, by omega, h3'⟩
theorem lay_g {sh : List S6.Sty} {l : List Opr} {tp wd : Int} (h : layE sh l tp wd = 0) : layL sh l tp wd = ldOf (runY wd (chgs sh) l) ∧ (10 ≤ wd ∧ wd ≤ 200) ∧ ∃ s k T, LyOk s (runY wd (chgs sh) l) k T ∧ LyG wd tp (runY wd (chgs sh) l) := by
  obtain ⟨hw, h1, h2, h3⟩ := layL_ok h
  obtain ⟨s, k, T, a, b, _⟩ := run_g (ch := chgs sh) hw l wk0 ly0 0 0 0 lyOk0 (lyG0 hw.1) h3
  exact ⟨by unfold layL; rw [if_pos h], hw, s, k, T, a, b⟩
end Go.Proofs.YtjohhahfpgfjdaaGreatDoor.Tb
end
section
namespace Go.Proofs.YtjohhahfpgfjdaaGreatDoor.Tb
open Go.RowKit
set_option linter.unusedVariables false
set_option linter.unusedSimpArgs false
/-- The link that a cell of a line bears. -/
def lkAt : List Gl → Int → Int
  | [], _ => 0
  | g :: l, c => if c < g.wd then g.lk else lkAt l (c - g.wd)
theorem lkAt_out : ∀ (l : List Gl) (c : Int), (∀ g ∈ l, 1 ≤ g.wd ∧ g.wd ≤ 2) → wid l ≤ c → lkAt l c = 0
  | [], c, _, _ => rfl
  | g :: l, c, h, hc => by
    have hg := h g (by simp)
    have hl := (wid_ge l fun x hx => h x (List.mem_cons_of_mem _ hx)).1
    simp only [wid] at hc
    unfold lkAt
    rw [if_neg (by omega)]
    exact lkAt_out l _ (fun x hx => h x (List.mem_cons_of_mem _ hx)) (by omega)
theorem lkAt_snoc : ∀ (p : List Gl) (g : Gl) (c : Int), 0 ≤ c → (∀ x ∈ p, 1 ≤ x.wd ∧ x.wd ≤ 2) → lkAt (p ++ [g]) c = if c < wid p then lkAt p c else if c < wid p + g.wd then g.lk else 0
  | [], g, c, h0, h => by
    have hw : wid [] = 0 := rfl
    generalize wid [] = W at hw ⊢
    subst hw
    rw [if_neg (show ¬ c < 0 by omega), Int.zero_add]
    rfl
  | x :: p, g, c, h0, h => by
    have hx := h x (by simp)
    have hl := (wid_ge p fun z hz => h z (List.mem_cons_of_mem _ hz)).1
    have hw : wid (x :: p) = x.wd + wid p := rfl
    generalize wid (x :: p) = W at hw ⊢
    simp only [List.cons_append, lkAt]
    by_cases h1 : c < x.wd
    · rw [if_pos h1, if_pos h1, if_pos (show c < W by omega)]
    · rw [if_neg h1, if_neg h1, lkAt_snoc p g (c - x.wd) (by omega) fun z hz => h z (List.mem_cons_of_mem _ hz)]
      by_cases h2 : c < W
      · rw [if_pos (show c - x.wd < wid p by omega), if_pos h2]
      · rw [if_neg (show ¬ c - x.wd < wid p by omega), if_neg h2]
        by_cases h3 : c < W + g.wd
        · rw [if_pos (show c - x.wd < wid p + g.wd by omega), if_pos h3]
        · rw [if_neg (show ¬ c - x.wd < wid p + g.wd by omega), if_neg h3]
def hitR (c : Int) : List Rc → Option Int
  | [] => none
  | r :: l => if r.col ≤ c ∧ c < r.col + r.wide then some r.link else hitR c l
theorem hitR_none {c : Int} : ∀ {a : List Rc} (b : List Rc), hitR c a = none → hitR c (a ++ b) = hitR c b
  | [], b, _ => rfl
  | r :: a, b, h => by
    simp only [hitR, List.cons_append] at h ⊢
    split at h
    · cases h
    · rename_i h1
      rw [if_neg h1]
      exact hitR_none b h
theorem hitR_some {c z : Int} : ∀ {a : List Rc} (b : List Rc), hitR c a = some z → hitR c (a ++ b) = some z
  | [], b, h => by cases h
  | r :: a, b, h => by
    simp only [hitR, List.cons_append] at h ⊢
    split at h
    · rename_i h1
      rw [if_pos h1]; exact h
    · rename_i h1
      rw [if_neg h1]
      exact hitR_some b h
theorem hitR_app_none {c : Int} : ∀ {a b : List Rc}, hitR c (a ++ b) = none → hitR c a = none
  | [], b, _ => rfl
  | r :: a, b, h => by
    simp only [hitR, List.cons_append] at h ⊢
    split at h
    · cases h
    · rename_i h1
      rw [if_neg h1]
      exact hitR_app_none h
theorem wrap_id {z : Int} (h : -1000000000000 ≤ z ∧ z ≤ 1000000000000) : wrap64 z = z := by unfold wrap64; omega
/-- A glyph of a line. -/
def OkL (m : Nat) (g : Gl) : Prop := (1 ≤ g.wd ∧ g.wd ≤ 2) ∧ 0 ≤ g.lk ∧ g.lk ≤ m
/-- The rects of a line so far. -/
structure QI (row : Int) (m : Nat) (p : List Gl) (s : Qs) : Prop where
  col : s.col = wid p
  each : ∀ r ∈ s.rs, r.row = row ∧ 0 ≤ r.col ∧ 1 ≤ r.wide ∧ r.col + r.wide ≤ wid p ∧ 1 ≤ r.link ∧ r.link ≤ m
  srt : s.rs.Pairwise fun a b => a.col + a.wide ≤ b.col
  last : s.ah ≠ 0 → ∃ i r, s.rs = i ++ [r] ∧ r.col + r.wide = wid p ∧ r.link = s.ah
  hit : ∀ c, 0 ≤ c → hitR c s.rs = if lkAt p c = 0 then none else some (lkAt p c)
theorem qi0 (row : Int) (m : Nat) : QI row m [] ⟨[], 0, 0⟩ := ⟨rfl, fun r hr => by simp at hr, List.Pairwise.nil, fun h => absurd rfl h, fun c _ => rfl⟩
theorem qi_step {row : Int} {m : Nat} {p : List Gl} {s : Qs} (h : QI row m p s) (hp : ∀ g ∈ p, OkL m g) {g : Gl} (hg : OkL m g) (hw : wid p ≤ 1000000000) : QI row m (p ++ [g]) (qStep row s g) := by
  have hpw : ∀ x ∈ p, 1 ≤ x.wd ∧ x.wd ≤ 2 := fun x hx => (hp x hx).1
  have h0 := (wid_ge p hpw).1
  obtain ⟨⟨g1, g2⟩, g3, g4⟩ := hg
  have hwid : wid (p ++ [g]) = wid p + g.wd := by rw [wid_app, wid_one]
  have hcol : wrap64 (s.col + g.wd) = wid (p ++ [g]) := by rw [h.col, wrap_id (by omega), hwid]
  have hout : ∀ c, wid p ≤ c → 0 ≤ c → hitR c s.rs = none := fun c h1 h2 => by rw [h.hit c h2, if_pos (lkAt_out p c hpw h1)]
  by_cases hz : g.lk = 0
  · have e : qStep row s g = ⟨s.rs, wrap64 (s.col + g.wd), g.lk⟩ := by unfold qStep; rw [if_pos hz]
    rw [e]
    refine ⟨hcol, fun r hr => ?_, h.srt, fun h1 => absurd hz h1, fun c hc => ?_⟩
    · have := h.each r hr
      rw [hwid]; omega
    · rw [lkAt_snoc p g c hc hpw]
      by_cases h1 : c < wid p
      · rw [if_pos h1]; exact h.hit c hc
      · rw [if_neg h1, hz, ite_self, if_pos rfl]
        exact hout c (by omega) hc
  · by_cases ha : g.lk = s.ah
    · obtain ⟨i, r, er, e1, e2⟩ := h.last (by rw [← ha]; exact hz)
      have hr := h.each r (by rw [er]; simp)
      have e : qStep row s g = ⟨i ++ [⟨r.row, r.col, r.wide + g.wd, r.link⟩], wrap64 (s.col + g.wd), g.lk⟩ := by
        unfold qStep
        rw [if_neg hz, if_pos ha, er, addW_snoc, wrap_id (by omega)]
      rw [e]
      have hs := h.srt
      rw [er, List.pairwise_append] at hs
      refine ⟨hcol, fun x hx => ?_, ?_, fun _ => ⟨i, _, rfl, by simp only [hwid]; omega, by simp only [e2]; exact ha.symm⟩, fun c hc => ?_⟩
      · rcases List.mem_append.1 hx with hx | hx
        · have := h.each x (by rw [er]; exact List.mem_append_left _ hx)
          rw [hwid]; omega
        · rw [List.mem_singleton] at hx; subst hx
          simp only [hwid]; omega
      · rw [List.pairwise_append]
        refine ⟨hs.1, List.pairwise_singleton _ _, fun a ha b hb => ?_⟩
        rw [List.mem_singleton] at hb; subst hb
        exact hs.2.2 a ha r (by simp)
      · have hh := h.hit c hc
        rw [lkAt_snoc p g c hc hpw]
        by_cases h1 : c < wid p
        · rw [if_pos h1, ← hh, er]
          cases hi : hitR c i with
          | some z => rw [hitR_some _ hi, hitR_some _ hi]
          | none =>
            rw [hitR_none _ hi, hitR_none _ hi]
            simp only [hitR]
            by_cases h2 : r.col ≤ c ∧ c < r.col + r.wide
            · rw [if_pos h2, if_pos (by omega)]
            · rw [if_neg h2, if_neg (by omega)]
        · have hn := hout c (by omega) hc
          rw [er] at hn
          rw [if_neg h1, hitR_none _ (hitR_app_none hn)]
          simp only [hitR]
          by_cases h2 : c < wid p + g.wd
          · rw [if_pos h2, if_pos (by omega), if_neg hz, e2, ha]
          · rw [if_neg h2, if_neg (by omega), if_pos rfl]
    · have e : qStep row s g = ⟨s.rs ++ [⟨row, wid p, g.wd, g.lk⟩], wrap64 (s.col + g.wd), g.lk⟩ := by
        unfold qStep
        rw [if_neg hz, if_neg ha, h.col, wrap_id (z := g.wd) (by omega)]
      rw [e]
      refine ⟨hcol, fun x hx => ?_, ?_, fun _ => ⟨s.rs, _, rfl, by simp only [hwid], rfl⟩, fun c hc => ?_⟩
      · rcases List.mem_append.1 hx with hx | hx
        · have := h.each x hx
          rw [hwid]; omega
        · rw [List.mem_singleton] at hx; subst hx
          have hge : 1 ≤ g.lk := by omega
          exact ⟨rfl, by simp only; omega, g1, by simp only; rw [hwid]; omega, hge, g4⟩
      · rw [List.pairwise_append]
        refine ⟨h.srt, List.pairwise_singleton _ _, fun a ha b hb => ?_⟩
        rw [List.mem_singleton] at hb; subst hb
        exact (h.each a ha).2.2.2.1
      · have hh := h.hit c hc
        rw [lkAt_snoc p g c hc hpw]
        by_cases h1 : c < wid p
        · rw [if_pos h1, ← hh]
          cases hi : hitR c s.rs with
          | some z => rw [hitR_some _ hi]
          | none =>
            rw [hitR_none _ hi]
            simp only [hitR]
            rw [if_neg (by omega)]
        · rw [if_neg h1, hitR_none _ (hout c (by omega) hc)]
          simp only [hitR]
          by_cases h2 : c < wid p + g.wd
          · rw [if_pos h2, if_pos (by omega), if_neg hz]
          · rw [if_neg h2, if_neg (by omega), if_pos rfl]
theorem qi_run {row : Int} {m : Nat} : ∀ (l p : List Gl) (s : Qs), QI row m p s → (∀ g ∈ p, OkL m g) → (∀ g ∈ l, OkL m g) → wid (p ++ l) ≤ 1000000000 → QI row m (p ++ l) (l.foldl (qStep row) s)
  | [], p, s, h, _, _, _ => by rw [List.append_nil]; exact h
  | g :: l, p, s, h, hp, hl, hw => by
    have hg := hl g (by simp)
    have hlw := (wid_ge l fun z hz => (hl z (List.mem_cons_of_mem _ hz)).1).1
    have hw' := hw
    rw [wid_app] at hw'
    simp only [wid] at hw'
    have hg1 := hg.1.1
    have e : p ++ g :: l = p ++ [g] ++ l := by simp
    rw [e] at hw ⊢
    refine qi_run l (p ++ [g]) _ (qi_step h hp hg (by omega)) (fun x hx => ?_) (fun x hx => hl x (List.mem_cons_of_mem _ hx)) hw
    rcases List.mem_append.1 hx with hx | hx
    · exact hp x hx
    · rw [List.mem_singleton] at hx; subst hx; exact hg
theorem qi_line {row : Int} {m : Nat} {l : List Gl} (h : ∀ g ∈ l, OkL m g) (hw : wid l ≤ 1000000000) : QI row m l (qRun row l) := by
  have := qi_run (row := row) l [] ⟨[], 0, 0⟩ (qi0 row m) (fun g hg => by simp at hg) h (by simpa using hw)
  simpa [qRun] using this
/-- In a list of lines. -/
def RcOrd (a b : Rc) : Prop := a.row < b.row ∨ (a.row = b.row ∧ a.col + a.wide ≤ b.col)
theorem rects_facts {m : Nat} : ∀ (ls : List (List Gl)) (row : Int), (∀ l ∈ ls, (∀ g ∈ l, OkL m g) ∧ wid l ≤ 1000000000) →
    (∀ r ∈ rectsA row ls, ∃ j : Nat, ∃ hj : j < ls.length, r.row = row + j ∧ 0 ≤ r.col ∧ 1 ≤ r.wide ∧ r.col + r.wide ≤ wid ls[j] ∧ 1 ≤ r.link ∧ r.link ≤ m) ∧ (rectsA row ls).Pairwise RcOrd
  | [], row, _ => ⟨fun r hr => by simp [rectsA] at hr, List.Pairwise.nil⟩
  | l :: ls, row, h => by
    have hl := h l (by simp)
    have q := qi_line (row := row) hl.1 hl.2
    obtain ⟨i1, i2⟩ := rects_facts ls (row + 1) fun x hx => h x (List.mem_cons_of_mem _ hx)
    refine ⟨fun r hr => ?_, ?_⟩
    · rcases List.mem_append.1 hr with hr | hr
      · have := q.each r hr
        exact ⟨0, by simp, by simpa using this.1, this.2⟩
      · obtain ⟨j, hj, e1, e2⟩ := i1 r hr
        exact ⟨j + 1, by simpa using hj, by omega, e2⟩
    · show (rectsM row l ++ rectsA (row + 1) ls).Pairwise RcOrd
      rw [List.pairwise_append]
      refine ⟨?_, i2, fun a ha b hb => ?_⟩
      · refine List.Pairwise.imp_of_mem ?_ q.srt
        intro a b ha hb hab
        exact .inr ⟨by rw [(q.each a ha).1, (q.each b hb).1], hab⟩
      · obtain ⟨j, hj, e1, _⟩ := i1 b hb
        have := (q.each a ha).1
        exact .inl (by omega)
theorem inB_eq {c f w : Int} (hc : -1000000000000 ≤ c ∧ c ≤ 1000000000000) (hf : 0 ≤ f ∧ f ≤ 1000000000000) (hw : 0 ≤ w ∧ w ≤ 1000000000000) : inB c f w = decide (f ≤ c ∧ c < f + w) := by
  unfold inB
  by_cases h1 : f ≤ c
  · have e1 : IntKind.u64.wrap c = c := by simp [IntKind.wrap, IntKind.signed, IntKind.bits]; omega
    have e2 : IntKind.u64.wrap f = f := by simp [IntKind.wrap, IntKind.signed, IntKind.bits]; omega
    have e3 : IntKind.u64.wrap w = w := by simp [IntKind.wrap, IntKind.signed, IntKind.bits]; omega
    have e4 : IntKind.u64.wrap (c - f) = c - f := by simp [IntKind.wrap, IntKind.signed, IntKind.bits]; omega
    rw [e1, e2, e3, e4, decide_eq_true h1, Bool.true_and]
    by_cases h2 : 0 < w
    · rw [decide_eq_true h2, Bool.true_and]
      exact decide_eq_decide.2 (by omega)
    · rw [decide_eq_false h2, Bool.false_and]
      exact (decide_eq_false (by omega)).symm
  · rw [decide_eq_false h1, Bool.false_and]
    exact (decide_eq_false (by omega)).symm
theorem hitF_other {row c : Int} : ∀ {rs : List Rc} (b : List Rc), (∀ r ∈ rs, r.row ≠ row) → hitF row c (rs ++ b) = hitF row c b
  | [], b, _ => rfl
  | r :: rs, b, h => by
    simp only [List.cons_append, hitF]
    rw [if_neg (fun e => h r (by simp) e.1)]
    exact hitF_other b fun x hx => h x (List.mem_cons_of_mem _ hx)
theorem hitF_row {row c : Int} (hc : 0 ≤ c ∧ c ≤ 1000000000000) : ∀ {rs : List Rc} (b : List Rc), (∀ r ∈ rs, r.row = row ∧ 0 ≤ r.col ∧ 1 ≤ r.wide ∧ r.col + r.wide ≤ 1000000000) → (∀ r ∈ b, r.row ≠ row) → hitF row c (rs ++ b) = hitR c rs
  | [], b, _, hb => by
    have := hitF_other (c := c) [] hb
    rw [List.append_nil] at this
    exact this
  | r :: rs, b, h, hb => by
    have hr := h r (by simp)
    simp only [List.cons_append, hitF, hitR]
    rw [inB_eq ⟨by omega, hc.2⟩ ⟨hr.2.1, by omega⟩ ⟨by omega, by omega⟩, hitF_row hc b (fun x hx => h x (List.mem_cons_of_mem _ hx)) hb]
    by_cases h1 : r.col ≤ c ∧ c < r.col + r.wide
    · rw [if_pos ⟨hr.1, by simpa using h1⟩, if_pos h1]
    · rw [if_neg (fun e => h1 (by simpa using e.2)), if_neg h1]
theorem rectsA_row {m : Nat} {ls : List (List Gl)} {row : Int} (h : ∀ l ∈ ls, (∀ g ∈ l, OkL m g) ∧ wid l ≤ 1000000000) : ∀ r ∈ rectsA row ls, row ≤ r.row := fun r hr => by
  obtain ⟨j, hj, e, _⟩ := (rects_facts ls row h).1 r hr
  omega
/-- What a click on a cell of a line hits. -/
theorem hit_cell {m : Nat} {c : Int} (hc : 0 ≤ c ∧ c ≤ 1000000000000) : ∀ (ls : List (List Gl)) (row : Int) (j : Nat) (hj : j < ls.length), (∀ l ∈ ls, (∀ g ∈ l, OkL m g) ∧ wid l ≤ 1000000000) →
    hitF (row + j) c (rectsA row ls) = if lkAt ls[j] c = 0 then none else some (lkAt ls[j] c)
  | [], row, j, hj, _ => absurd hj (by simp)
  | l :: ls, row, 0, hj, h => by
    have hl := h l (by simp)
    have q := qi_line (row := row) hl.1 hl.2
    have hb : ∀ r ∈ rectsA (row + 1) ls, r.row ≠ row := fun r hr => by
      have := rectsA_row (fun x hx => h x (List.mem_cons_of_mem _ hx)) r hr
      omega
    show hitF (row + (0 : Nat)) c (rectsM row l ++ rectsA (row + 1) ls) = _
    rw [show row + ((0 : Nat) : Int) = row by omega, hitF_row hc _ (fun r hr => by have := q.each r hr; omega) hb]
    exact q.hit c hc.1
  | l :: ls, row, j + 1, hj, h => by
    have hl := h l (by simp)
    have q := qi_line (row := row) hl.1 hl.2
    show hitF (row + ((j + 1 : Nat) : Int)) c (rectsM row l ++ rectsA (row + 1) ls) = _
    rw [hitF_other _ (fun r hr => by have := (q.each r hr).1; omega), show row + ((j + 1 : Nat) : Int) = row + 1 + (j : Int) by omega]
    exact hit_cell hc ls (row + 1) j (by simpa using hj) fun x hx => h x (List.mem_cons_of_mem _ hx)
end Go.Proofs.YtjohhahfpgfjdaaGreatDoor.Tb
end
section
namespace Go.Proofs.YtjohhahfpgfjdaaGreatDoor.Ir
open Go.RowKit Go.Maps Go.Proofs.YtjohhahfpgfjdaaGreatDoor
set_option linter.unusedVariables false
set_option linter.unusedSimpArgs false
section
variable {W : World} {M : Nat}
theorem own_notM {base : Nat} {e T : TypeId} {size n : Nat} {v : Value} {xs : List Value} {cs : Array Value} {fr : Nat × Nat} (h : W.ownsRow base e size v n xs) (hM : W.heap[M]? = some (.cells cs T fr)) (he : e ≠ T) : v.ownBlock ≠ some M := by
  intro ec
  rcases h.2 with ⟨rfl, _⟩ | ⟨g, cap, cur, rfl, _, hg, _⟩
  · simp [Value.ownBlock] at ec
  · obtain rfl : g = M := by simpa [Value.ownBlock] using ec
    rw [hM] at hg
    injection hg with e1
    injection e1 with _ e1
    exact he e1.symm
end
theorem cells_newI (w : World) (cs : Array Value) (t : TypeId) (j : Nat) (u : Value) (h : cs.toList[j]? = some u) : (w.alloc (.cells cs t)).cell? ((⟨w.heap.size, 0, none⟩ : Addr).add j) = some u := by
  rw [Addr.add_lit, Nat.zero_add, cell_of_row _ _ _ _ _ _ (heap_alloc_new w _)]
  rw [← Array.getElem?_toList]
  exact h
theorem oprRow_one (x : Opr) (wv : Value) (h : wv.oneCell' = true) : ∀ u ∈ oprRow (x, wv), u.oneCell' = true := by
  intro u hu
  simp only [oprRow, List.mem_cons, List.not_mem_nil, or_false] at hu
  rcases hu with rfl | rfl | rfl | rfl
  · rfl
  · rfl
  · rfl
  · exact h
def MakesL (l : List Opr) (w : World) (e : Ending) (w' : World) : Prop := ∃ v ps, e = .returned v ∧ OwnO w.heap.size w' v ps ∧ ps.map (·.1) = l ∧ Below w.heap.size w w'
/-- Behind an append of an operation to those of the call's own. -/
theorem OwnO.push {B : Nat} {w w' : World} {v v' : Value} {ps : List (Opr × Value)} {x : Opr} {wv : Value} (h : OwnO B w v ps) (hw : w.ownsRow B 3 1 wv x.w.length (numsZ x.w)) (hg : w.grownBy w' v.ownBlock) (ho : w'.ownsRow B 53 4 v' (ps.length + 1) (rowsO ps ++ oprRow (x, wv))) : OwnO B w' v' (ps ++ [(x, wv)]) := by
  have st : ∀ (z : Value) (ws : List Int), w.ownsRow B 3 1 z ws.length (numsZ ws) → w'.ownsRow B 3 1 z ws.length (numsZ ws) := fun z ws hz =>
    own_stays hz fun c hc => hg.block c (own_base hz hc).2 (fun e => own_ne hz h.row (by decide) hc e.symm)
  refine ⟨by rw [List.length_append, rowsO_snoc]; exact ho, fun p hp => ?_⟩
  rcases List.mem_append.1 hp with hp | hp
  · exact st _ _ (h.wid p hp)
  · rw [List.mem_singleton] at hp
    subst hp
    exact st _ _ hw
theorem own_not2 {W : World} {M : Nat} {base : Nat} {e T : TypeId} {size n : Nat} {v : Value} {xs : List Value} {cs : Array Value} {fr : Nat × Nat} (h : W.ownsRow base e size v n xs) (hM : W.heap[M]? = some (.cells cs T fr)) (he : e ≠ T) : v.ownBlock ≠ some M := own_notM h hM he
set_option maxRecDepth 100000 in
set_option maxHeartbeats 4000000 in
theorem twin_law {P : Nat → Prop} (l : List Opr) (v : Value) (w : World) (h : RdO P w v l) (hl : l.length * 56 ≤ 140737488355328) (hlw : ∀ x ∈ l, x.w.length * 8 ≤ 140737488355328) : Calls Tryz.prog 11 #[v] w (MakesL l w) := by
  obtain ⟨i0, hi0, hz0, hz1, hz2⟩ := info_parts infoO
  obtain ⟨pa, cap, rfl, hc1, hc2⟩ := sliceN h
  have HH := Lib.hid h
  have HL := Lib.hid hl
  have HLW := Lib.hid hlw
  obtain ⟨n, hn⟩ : ∃ n, l.length = n := ⟨_, rfl⟩
  have HN := Lib.hid hn
  rw [hn] at HH hc1 ⊢
  have hn62 : n ≤ 9223372036854775807 := by omega
  clear h hl hlw hn hc1
  go_enter Tryz.func11, Tryz.ntmps11
  go_wp2_with fail
  go_loopw [3, 8] (fun s3 i wr => ∃ (k : Nat) (ps : List (Opr × Value)), i = .int .i64 k ∧ k ≤ n ∧ ps.map (·.1) = l.take k ∧ Hid (OwnO w.heap.size wr s3 ps) ∧ Hid (Below w.heap.size w wr)) (fun _ i _ => n - (intOf i).toNat)
  case atStart => exact ⟨0, [], rfl, Nat.zero_le _, by simp, Lib.hid (OwnO.nil _ _), Lib.hid (Below.refl _ _)⟩
  case round =>
    obtain ⟨k, ps, rfl, hk, hq, HO, HB⟩ := hrel
    have HQ := Lib.hid hq
    obtain ⟨p3, c3', rfl⟩ := lenL HO.out.row
    by_cases hlt : k < n
    · have hkl : k < l.length := by rw [HN.out]; exact hlt
      obtain ⟨b, off, rfl, c0, c1, c2, wv, c3, h4⟩ := (HH.out.below HB.out).at_ hkl
      obtain ⟨p4, q4, rfl, u1, u2⟩ := h4.form
      have hql : ps.length = k := by have := congrArg List.length hq; simp at this; omega
      have HTK := Lib.hid (show l.take (k + 1) = l.take k ++ [l[k]] from List.take_succ_eq_append_getElem hkl)
      have hlw := HLW.out _ (List.getElem_mem hkl)
      obtain ⟨x, hx⟩ : ∃ x, l[k] = x := ⟨_, rfl⟩
      rw [hx] at c0 c1 c2 c3 h4 hlw HTK
      have hA : Below wr.heap.size wr (wr.alloc (.cells #[.int .i64 x.k, .int .i64 x.n, .string x.t, .slice p4 x.w.length q4] 53)) := (Below.refl _ _).alloc (Nat.le_refl _) _
      have hBr := HB.out.size
      obtain ⟨v2, W2, hr, ho, hg⟩ := run_twinZ (wr.alloc (.cells #[.int .i64 x.k, .int .i64 x.n, .string x.t, .slice p4 x.w.length q4] 53)) 49 x.w [] (.slice p4 x.w.length q4) (.slice none 0 0) (h4.below hA) (by simpa using hlw) w.heap.size (World.ownsRow_nil _ _ _ _) (Nat.le_trans hBr hA.size)
      rw [List.nil_append] at ho
      obtain ⟨p5, c5, rfl⟩ := lenL ho
      have hB2 : Below wr.heap.size wr W2 := hA.grown hg hA.size (fun r e => by simp [Value.ownBlock] at e)
      have hx2 : W2.heap[wr.heap.size]? = some (.cells #[.int .i64 x.k, .int .i64 x.n, .string x.t, .slice p4 x.w.length q4] 53 (0, 0)) := (hg.block wr.heap.size (by simp) (by simp [Value.ownBlock])).trans (heap_alloc_new wr _)
      have hx3 := heap_setCell_same W2 wr.heap.size 3 _ _ (.slice p5 x.w.length c5) hx2
      have f3 : W2.frozen? ⟨wr.heap.size, 3, none⟩ = false := frozen_of_row W2 _ 3 _ _ hx2
      obtain ⟨z0, z1, z2, z3⟩ : W2.cell? ⟨wr.heap.size, 0, none⟩ = some (.int .i64 x.k) ∧ W2.cell? ⟨wr.heap.size, 1, none⟩ = some (.int .i64 x.n) ∧ W2.cell? ⟨wr.heap.size, 2, none⟩ = some (.string x.t) ∧ W2.cell? ⟨wr.heap.size, 3, none⟩ = some (.slice p4 x.w.length q4) := by
        refine ⟨?_, ?_, ?_, ?_⟩ <;> rw [cell_of_row _ _ _ _ _ _ hx2] <;> rfl
      obtain ⟨W3, hW3⟩ : ∃ W3, W2.setCell ⟨wr.heap.size, 3, none⟩ (.slice p5 x.w.length c5) = W3 := ⟨_, rfl⟩
      rw [hW3] at hx3
      have hB3 : Below wr.heap.size wr W3 := by rw [← hW3]; exact hB2.setCell (p := ⟨wr.heap.size, 3, none⟩) (Nat.le_refl _) _
      obtain ⟨y0, y1, y2, y3⟩ : W3.cell? ⟨wr.heap.size, 0, none⟩ = some (.int .i64 x.k) ∧ W3.cell? ⟨wr.heap.size, 1, none⟩ = some (.int .i64 x.n) ∧ W3.cell? ⟨wr.heap.size, 2, none⟩ = some (.string x.t) ∧ W3.cell? ⟨wr.heap.size, 3, none⟩ = some (.slice p5 x.w.length c5) := by
        refine ⟨?_, ?_, ?_, ?_⟩ <;> rw [cell_of_row _ _ _ _ _ _ hx3] <;> rfl
      have hw3 : W3.ownsRow w.heap.size 3 1 (.slice p5 x.w.length c5) x.w.length (numsZ x.w) := by
        rw [← hW3]
        exact own_stays ho fun c hc => Below.heap_setCell _ _ _ _ (fun e => own_not2 ho hx2 (by decide) (by rw [hc, e]))
      have hA3 : Below W3.heap.size W3 (W3.alloc (.cells #[.int .i64 x.k, .int .i64 x.n, .string x.t, .slice p5 x.w.length c5] 53)) := (Below.refl _ _).alloc (Nat.le_refl _) _
      have HO3 := Lib.hid ((HO.out.below hB3).below hA3)
      have HW3 := Lib.hid (own_below hw3 hA3)
      have HB3 := Lib.hid ((HB.out.trans (hB3.mono hBr)).trans (hA3.mono (Nat.le_trans hBr hB3.size)))
      have L1 := Lib.hid (show ps.length + 1 ≤ maxLen by have := HL.out; have := HN.out; unfold maxLen; omega)
      have L2 := Lib.hid (show (ps.length + 1) * 56 ≤ 140737488355328 by have := HL.out; have := HN.out; omega)
      have L3 := Lib.hid HB3.out.size
      have HR := Lib.hid hr
      have k1 : (k : Int) < n := by omega
      have HLT := Lib.hid hlt
      have HNC := Lib.hid (fun j u hu => cells_newI W3 #[.int .i64 x.k, .int .i64 x.n, .string x.t, .slice p5 x.w.length c5] 53 j u hu)
      clear hx hA hBr hr ho hg hB2 hx2 hx3 hB3 hw3 hA3 h4 u1 u2 hlw hlt hq hql
      go_wp2_with (first
        | (at_builtin; go_loud (refine wpList_app2 rfl _ _ _ rfl rfl rfl HR.out ?_))
        | (at_builtin; go_loud (refine wpList_append_own _ rfl _ _ 23 rfl w.heap.size 53 i0 _ 4 56 Tryz.underlying23 hi0 hz0 hz1 hz2 rfl (by decide) _ _ _ rfl HO3.out.row ⟨W3.heap.size, 0, none⟩ 1 1 (oprRow (x, .slice p5 x.w.length c5)) rfl rfl HNC.out (oprRow_one x _ rfl) L1.out L2.out L3.out ?_); intro v6 w6 hown6 hgrow6 _; have HO6 := Lib.hid (HO3.out.push HW3.out hgrow6 hown6); have HB6 := Lib.hid (HB3.out.grown hgrow6 L3.out (fun r e => (own_base HO3.out.row e).1)); clear hown6 hgrow6))
      go_wp2_with fail
      go_roundw
      case measure => have := HLT.out; simp [intOf]; omega
      case rel => exact ⟨k + 1, ps ++ [(x, .slice p5 x.w.length c5)], by go_num, HLT.out, by rw [List.map_append, HQ.out, HTK.out]; rfl, HO6, HB6⟩
    · obtain rfl : k = n := by omega
      have hz1 : ¬ (k : Int) < k := by omega
      clear hlt
      go_wp2_with fail
      go_ret
      exact ⟨_, ps, rfl, HO.out, by rw [hq, ← HN.out, List.take_length], HB.out⟩
end Go.Proofs.YtjohhahfpgfjdaaGreatDoor.Ir
end
section
namespace Go.Proofs.YtjohhahfpgfjdaaGreatDoor.S6
open Go.Deep Go.ChangeShapes Go.WideShapes Go.RowKit Go.Proofs.YtjohhahfpgfjdaaGreatDoor
set_option linter.unusedVariables false
set_option maxRecDepth 100000
section
variable {H : Type} {enc : TypeId × Value → H} {W : World}
theorem in64_wf {z : Int} (w : (Lit.int .i64 z).wf = true) : In64 z := by unfold In64; simpa [Lit.wf, IntKind.min, IntKind.max, IntKind.signed, IntKind.bits] using w
theorem kI : Tryz.prog.cellsOf 3 = 1 := by kernel_rfl
theorem kS : Tryz.prog.cellsOf 9 = 1 := by kernel_rfl
theorem kC : Tryz.prog.cellsOf 64 = 3 := by kernel_rfl
theorem kY : Tryz.prog.cellsOf 66 = 5 := by kernel_rfl
theorem bs_data (s : ByteArray) : bs s.data.toList = s := by cases s; simp [bs]
theorem chg_cells {n : Nat} {cs : List Value} {x : DataW H × List MemPlace} (h : DataW.trod enc Tryz.prog W 0 (fun _ => true) true n 64 cs = some x) :
    ∃ c : Chg, cs = [.int .i64 c.on, .int .i64 c.off, .int .i64 c.col] ∧ In64 c.on ∧ In64 c.off ∧ In64 c.col := by
  obtain ⟨y0, y1, y2, n, rfl, hl, h0, h1, h2⟩ := trod_struct3 Tryz.underlying64 h
  have hl3 : cs.length = 3 := hl.trans kC
  match cs, hl3 with
  | [c0, c1, c2], _ =>
    simp [kI] at h0 h1 h2
    obtain ⟨z0, e0, _, w0⟩ := DataW.trod_int Tryz.underlying3 h0
    obtain ⟨z1, e1, _, w1⟩ := DataW.trod_int Tryz.underlying3 h1
    obtain ⟨z2, e2, _, w2⟩ := DataW.trod_int Tryz.underlying3 h2
    simp at e0 e1 e2
    subst e0 e1 e2
    exact ⟨⟨z0, z1, z2⟩, rfl, in64_wf w0, in64_wf w1, in64_wf w2⟩
theorem sty_cells {n : Nat} {cs : List Value} {x : DataW H × List MemPlace} (h : DataW.trod enc Tryz.prog W 0 (fun _ => true) true n 66 cs = some x) :
    ∃ s : Sty, cs = styRow s ∧ FitS s := by
  obtain ⟨y0, y1, y2, n, rfl, hl, h0, h1, h2⟩ := trod_struct3 Tryz.underlying66 h
  have hl3 : cs.length = 5 := hl.trans kY
  match cs, hl3 with
  | [c0, c1, c2, c3, c4], _ =>
    simp [kS, kC] at h0 h1 h2
    obtain ⟨s0, e0, _, m0⟩ := DataW.trod_string Tryz.underlying9 h0
    obtain ⟨s1, e1, _, m1⟩ := DataW.trod_string Tryz.underlying9 h1
    obtain ⟨c, e2, w0, w1, w2⟩ := chg_cells h2
    simp at e0 e1 e2
    obtain ⟨rfl, rfl, rfl⟩ := e2
    subst e0 e1
    have l0 : s0.data.toList.length = s0.size := by rw [Array.length_toList]; rfl
    have l1 : s1.data.toList.length = s1.size := by rw [Array.length_toList]; rfl
    unfold maxLen at m0 m1
    refine ⟨⟨s0.data.toList, s1.data.toList, c⟩, by simp [styRow, bs_data], by show s0.data.toList.length ≤ 9223372036854775807; omega, by show s1.data.toList.length ≤ 9223372036854775807; omega, w0, w1, w2⟩
theorem choose_n {α : Type} {n : Nat} {R : Nat → α → Prop} (z : α) (h : ∀ i, i < n → ∃ a, R i a) : ∃ f : Nat → α, ∀ i, i < n → R i (f i) := by
  have : ∀ i, ∃ a, i < n → R i a := by
    intro i
    by_cases hi : i < n
    · obtain ⟨a, ha⟩ := h i hi
      exact ⟨a, fun _ => ha⟩
    · exact ⟨z, fun h => absurd h hi⟩
  exact ⟨fun i => Classical.choose (this i), fun i hi => Classical.choose_spec (this i) hi⟩
/-- How a list's reading tells its length. -/
def LenD {H : Type} (d : DataW H) (n : Nat) : Prop := d = .nil ∧ n = 0 ∨ ∃ es sp, d = .slice es sp ∧ es.length = n
theorem sheet_read {v : Value} {d : DataW H} {p : List MemPlace} (h : DataW.Trod enc Tryz.prog W 0 (fun _ => true) true 22 v d p) (hv : ∃ pa len cap, v = .slice pa len cap) :
    ∃ l : List Sty, (Sh W v l ∧ Fit l) ∧ LenD d l.length := by
  obtain ⟨pa, len, cap, rfl⟩ := hv
  obtain ⟨n, hn⟩ := h
  rcases open_slice Tryz.underlying22 hn with ⟨h3, h4⟩ | ⟨a, l, c, m, n', D, Pl, h3, _, hlc, hcm, hm, hx, hall⟩
  · simp [Value.cells] at h3
    obtain ⟨rfl, rfl, rfl⟩ := h3
    cases h4
    exact ⟨[], ⟨⟨none, 0, rfl, Nat.le_refl _, by decide, fun j hj => absurd hj (by simp)⟩, fun s hs => by cases hs⟩, .inl ⟨rfl, rfl⟩⟩
  · simp [Value.cells] at h3
    obtain ⟨rfl, rfl, rfl⟩ := h3
    have hmc : m = cap := by simpa using hm
    subst hmc
    cases hx
    obtain ⟨f, hf⟩ := choose_n (R := fun i (s : Sty) => FitS s ∧ ∃ spot, a = ⟨a.block, a.off, spot⟩ ∧ spot = none ∧ ∀ k u, (styRow s)[k]? = some u → W.cell? ⟨a.block, a.off + i * 5 + k, none⟩ = some u) zeroS (fun i hi => by
      obtain ⟨cs', h1, h2⟩ := hall i (show i < m from Nat.lt_of_lt_of_le (show i < len from hi) hlc)
      obtain ⟨s, rfl, hs⟩ := sty_cells h2
      rw [kY] at h1
      obtain ⟨_, _, hcell⟩ := World.cells?_some h1
      obtain ⟨b, off, spot⟩ := a
      have hspot : spot = none := by
        obtain ⟨cs0, h01, h02⟩ := hall 0 (Nat.lt_of_lt_of_le (show 0 < len by omega) hlc)
        obtain ⟨s0, rfl, _⟩ := sty_cells h02
        rw [kY] at h01
        obtain ⟨_, _, hc0⟩ := World.cells?_some h01
        have := hc0 0 (by omega)
        rw [show (styRow s0)[0]? = some (.string (bs s0.nm)) from rfl] at this
        simpa [Addr.add] using World.cell?_spot this
      subst hspot
      refine ⟨s, hs, none, rfl, rfl, fun k u hk => ?_⟩
      have hk5 : k < 5 := by
        rcases Nat.lt_or_ge k 5 with h | h
        · exact h
        · rw [List.getElem?_eq_none (by simpa [styRow] using h)] at hk; cases hk
      have := hcell k hk5
      rw [add_add, add_plain] at this
      rw [← hk, ← this, Nat.add_assoc])
    refine ⟨(List.range len).map f, ⟨⟨some a, m, by simp, by simpa using hlc, hcm, fun i hi => ?_⟩, fun s hs => ?_⟩, .inr ⟨_, _, rfl, by simp⟩⟩
    · have hi' : i < len := by simpa using hi
      obtain ⟨_, spot, e, e2, hc⟩ := hf i hi'
      subst e2
      refine ⟨a.block, a.off, by rw [← e], ?_⟩
      simp only [List.getElem_map, List.getElem_range]
      exact hc
    · obtain ⟨i, hi, rfl⟩ := List.mem_map.1 hs
      exact (hf i (by simpa using hi)).1
end
end Go.Proofs.YtjohhahfpgfjdaaGreatDoor.S6
end
section
namespace Go.Proofs.YtjohhahfpgfjdaaGreatDoor.Ir
open Go.Deep Go.ChangeShapes Go.WideShapes Go.RowKit Go.Maps Go.Proofs.YtjohhahfpgfjdaaGreatDoor
set_option linter.unusedVariables false
set_option maxRecDepth 100000
theorem toList_size (s : ByteArray) : s.data.toList.length = s.size := by rw [Array.length_toList]; rfl
theorem choose_n {α : Type} {n : Nat} {R : Nat → α → Prop} (z : α) (h : ∀ i, i < n → ∃ a, R i a) : ∃ f : Nat → α, ∀ i, i < n → R i (f i) := by
  have : ∀ i, ∃ a, i < n → R i a := by
    intro i
    by_cases hi : i < n
    · obtain ⟨a, ha⟩ := h i hi
      exact ⟨a, fun _ => ha⟩
    · exact ⟨z, fun h => absurd h hi⟩
  exact ⟨fun i => Classical.choose (this i), fun i hi => Classical.choose_spec (this i) hi⟩
theorem kI : Tryz.prog.cellsOf 3 = 1 := by kernel_rfl
theorem kS : Tryz.prog.cellsOf 9 = 1 := by kernel_rfl
theorem kK : Tryz.prog.cellsOf 51 = 1 := by kernel_rfl
theorem kZ : Tryz.prog.cellsOf 49 = 1 := by kernel_rfl
theorem kO : Tryz.prog.cellsOf 53 = 4 := by kernel_rfl
def LenD {H : Type} (d : DataW H) (n : Nat) : Prop := d = .nil ∧ n = 0 ∨ ∃ es sp, d = .slice es sp ∧ es.length = n
theorem bulk_posL {H : Type} : ∀ d : DataW H, 1 ≤ Rows.uptoBulk d := by
  intro d
  cases d with
  | lit l => cases l <;> simp [Rows.uptoBulk]
  | _ => simp [Rows.uptoBulk]
theorem bulk_allL {H : Type} : ∀ ds : List (DataW H), ds.length ≤ Rows.uptoBulkAll ds
  | [] => by simp [Rows.uptoBulkAll]
  | d :: r => by
    have := bulk_posL d
    have := bulk_allL r
    simp only [Rows.uptoBulkAll, List.length_cons]
    omega
theorem bulk_memL {H : Type} : ∀ (ds : List (DataW H)) (d : DataW H), d ∈ ds → Rows.uptoBulk d ≤ Rows.uptoBulkAll ds
  | [], d, h => by cases h
  | x :: r, d, h => by
    simp only [Rows.uptoBulkAll]
    rcases List.mem_cons.1 h with rfl | h
    · omega
    · have := bulk_memL r d h
      omega
theorem len_bulkL {H : Type} {d : DataW H} {n : Nat} (h : LenD d n) : n ≤ Rows.uptoBulk d := by
  rcases h with ⟨rfl, rfl⟩ | ⟨es, sp, rfl, he⟩
  · omega
  · have := bulk_allL es
    simp only [Rows.uptoBulk]
    omega
theorem bulk_sumO {H : Type} (f : Nat → Opr × Value) (D : Nat → DataW H) : ∀ is : List Nat, (∀ i ∈ is, (f i).1.t.size ≤ Rows.uptoBulk (D i)) → sumT (is.map fun i => (f i).1) ≤ Rows.uptoBulkAll (is.map D)
  | [], _ => by simp [Rows.uptoBulkAll, sumT]
  | i :: r, h => by
    have h1 := bulk_sumO f D r fun j hj => h j (List.mem_cons_of_mem _ hj)
    have h2 := h i (by simp)
    simp only [List.map_cons, sumT, Rows.uptoBulkAll]
    omega
section
variable {H : Type} {enc : TypeId × Value → H} {W : World}
theorem add_plain' (b o i : Nat) : (⟨b, o, none⟩ : Addr).add i = ⟨b, o + i, none⟩ := Addr.add_lit _ _ _
theorem ints_read {v : Value} {d : DataW H} {p : List MemPlace} (h : DataW.Trod enc Tryz.prog W 0 (fun _ => true) true 49 v d p) (hv : ∃ pa len cap, v = .slice pa len cap) :
    ∃ xs : List Int, RdZ (fun _ => True) W v xs ∧ LenD d xs.length := by
  obtain ⟨pa, len, cap, rfl⟩ := hv
  obtain ⟨n, hn⟩ := h
  rcases open_slice1 Tryz.underlying49 kI hn with ⟨h3, h4⟩ | ⟨a, l, c, m, n', V, D, Pl, h3, _, hlc, hcm, hm, hx, hall⟩
  · simp [Value.cells] at h3
    obtain ⟨rfl, rfl, rfl⟩ := h3
    cases h4
    exact ⟨[], ⟨none, 0, rfl, Nat.le_refl _, by decide, fun j hj => absurd hj (by simp)⟩, .inl ⟨rfl, rfl⟩⟩
  · simp [Value.cells] at h3
    obtain ⟨rfl, rfl, rfl⟩ := h3
    have hmc : m = cap := by simpa using hm
    subst hmc
    cases hx
    obtain ⟨f, hf⟩ := choose_n (R := fun i (z : Int) => a = ⟨a.block, a.off, none⟩ ∧ W.cell? ⟨a.block, a.off + i, none⟩ = some (.int .i64 z)) 0 (fun i hi => by
      obtain ⟨h1, h2⟩ := hall i (show i < m from Nat.lt_of_lt_of_le (show i < len from hi) hlc)
      obtain ⟨z, e, _, m0⟩ := DataW.trod_int Tryz.underlying3 h2
      simp at e
      rw [e] at h1
      obtain ⟨b, off, spot⟩ := a
      have hspot : spot = none := by
        have := (hall 0 (Nat.lt_of_lt_of_le (show 0 < len by omega) hlc)).1
        simpa [Addr.add] using World.cell?_spot this
      subst hspot
      rw [add_plain'] at h1
      exact ⟨z, rfl, h1⟩)
    refine ⟨(List.range len).map f, ⟨some a, m, by simp, by simpa using hlc, hcm, fun i hi => ?_⟩, .inr ⟨_, _, rfl, by simp⟩⟩
    have hi' : i < len := by simpa using hi
    obtain ⟨e, hc⟩ := hf i hi'
    refine ⟨a.block, a.off, by rw [← e], trivial, ?_⟩
    simp only [List.getElem_map, List.getElem_range]
    exact hc
theorem slice_cell {t e : TypeId} {n : Nat} {c : Value} {x : DataW H × List MemPlace} (ht : Tryz.prog.underlying t = some (.slice e)) (h : DataW.trod enc Tryz.prog W 0 (fun _ => true) true n t [c] = some x) : ∃ p l k, c = .slice p l k := by
  rcases open_slice ht h with ⟨h3, _⟩ | ⟨a, l, c', m, n', D, Pl, h3, _⟩
  · simp at h3; exact ⟨_, _, _, h3⟩
  · simp at h3; exact ⟨_, _, _, h3⟩
theorem op_cells {n : Nat} {cs : List Value} {x : DataW H × List MemPlace} (h : DataW.trod enc Tryz.prog W 0 (fun _ => true) true n 53 cs = some x) :
    ∃ r : Opr × Value, cs = oprRow r ∧ RdZ (fun _ => True) W r.2 r.1.w ∧ r.1.t.size ≤ Rows.uptoBulk x.1 ∧ r.1.w.length ≤ Rows.uptoBulk x.1 := by
  obtain ⟨xs, m, _, rfl, hl, hlen, hf⟩ := DataW.trod_struct Tryz.underlying53 h
  have hl8 : cs.length = 4 := hl.trans kO
  have hl9 : xs.length = 4 := hlen
  match cs, hl8, xs, hl9 with
  | [c0, c1, c2, c3], _, [y0, y1, y2, y3], _ =>
    have h0 := hf 0 _ rfl
    have h1 := hf 1 _ rfl
    have h2 := hf 2 _ rfl
    have h3 := hf 3 _ rfl
    simp [kI, kS, kK, kZ] at h0 h1 h2 h3
    obtain ⟨z0, e0, _⟩ := DataW.trod_int Tryz.underlying51 h0
    obtain ⟨z1, e1, _⟩ := DataW.trod_int Tryz.underlying3 h1
    obtain ⟨s2, e2, d2, _⟩ := DataW.trod_string Tryz.underlying9 h2
    obtain ⟨p3, l3, k3, e3⟩ := slice_cell Tryz.underlying49 h3
    simp at e0 e1 e2
    subst e0 e1 e2 e3
    obtain ⟨zs, hr, hd⟩ := ints_read (enc := enc) (W := W) (v := .slice p3 l3 k3) (d := y3.1) (p := y3.2) ⟨m, h3⟩ ⟨_, _, _, rfl⟩
    have hb := len_bulkL hd
    subst d2
    refine ⟨(⟨z0, z1, s2, zs⟩, .slice p3 l3 k3), rfl, hr, ?_, ?_⟩
    · simp only [List.map_cons, List.map_nil, Rows.uptoBulk, Rows.uptoBulkAll]
      rw [toList_size]
      omega
    · simp only [List.map_cons, List.map_nil, Rows.uptoBulk, Rows.uptoBulkAll]
      omega
def BulkO (d : DataW H) (l : List Opr) : Prop := l.length ≤ Rows.uptoBulk d ∧ sumT l ≤ Rows.uptoBulk d ∧ ∀ x ∈ l, x.w.length ≤ Rows.uptoBulk d
theorem ops_read {v : Value} {d : DataW H} {p : List MemPlace} (h : DataW.Trod enc Tryz.prog W 0 (fun _ => true) true 23 v d p) (hv : ∃ pa len cap, v = .slice pa len cap) :
    ∃ l : List Opr, RdO (fun _ => True) W v l ∧ BulkO d l := by
  obtain ⟨pa, len, cap, rfl⟩ := hv
  obtain ⟨n, hn⟩ := h
  rcases open_slice Tryz.underlying23 hn with ⟨h3, h4⟩ | ⟨a, l, c, m, n', D, Pl, h3, _, hlc, hcm, hm, hx, hall⟩
  · simp [Value.cells] at h3
    obtain ⟨rfl, rfl, rfl⟩ := h3
    cases h4
    exact ⟨[], ⟨none, 0, rfl, Nat.le_refl _, by decide, fun j hj => absurd hj (by simp)⟩, by simp, by simp [sumT], by simp⟩
  · simp [Value.cells] at h3
    obtain ⟨rfl, rfl, rfl⟩ := h3
    have hmc : m = cap := by simpa using hm
    subst hmc
    cases hx
    obtain ⟨f, hf⟩ := choose_n (R := fun i (r : Opr × Value) => RdZ (fun _ => True) W r.2 r.1.w ∧ r.1.t.size ≤ Rows.uptoBulk (D i) ∧ r.1.w.length ≤ Rows.uptoBulk (D i) ∧ ∃ spot, a = ⟨a.block, a.off, spot⟩ ∧ spot = none ∧ ∀ k u, (oprRow r)[k]? = some u → W.cell? ⟨a.block, a.off + i * 4 + k, none⟩ = some u) (⟨0, 0, ByteArray.empty, []⟩, .slice none 0 0) (fun i hi => by
      obtain ⟨cs', h1, h2⟩ := hall i (show i < m from Nat.lt_of_lt_of_le (show i < len from hi) hlc)
      obtain ⟨r, rfl, hr, hs, hw⟩ := op_cells h2
      rw [kO] at h1
      obtain ⟨_, _, hcell⟩ := World.cells?_some h1
      obtain ⟨b, off, spot⟩ := a
      have hspot : spot = none := by
        obtain ⟨cs0, h01, h02⟩ := hall 0 (Nat.lt_of_lt_of_le (show 0 < len by omega) hlc)
        obtain ⟨r0, rfl, _⟩ := op_cells h02
        rw [kO] at h01
        obtain ⟨_, _, hc0⟩ := World.cells?_some h01
        have := hc0 0 (by omega)
        rw [show (oprRow r0)[0]? = some (.int .i64 r0.1.k) from rfl] at this
        simpa [Addr.add] using World.cell?_spot this
      subst hspot
      refine ⟨r, hr, hs, hw, none, rfl, rfl, fun k u hk => ?_⟩
      have hk5 : k < 4 := by
        rcases Nat.lt_or_ge k 4 with h | h
        · exact h
        · rw [List.getElem?_eq_none (by simpa [oprRow] using h)] at hk; cases hk
      have := hcell k hk5
      rw [add_add, add_plain'] at this
      rw [← hk, ← this, Nat.add_assoc])
    have hbd : Rows.uptoBulkAll ((List.range len).map D) ≤ Rows.uptoBulk (DataW.slice ((List.range len).map D) ((List.range (m - len)).map fun j => D (len + j))) := by
      simp only [Rows.uptoBulk]; omega
    refine ⟨(List.range len).map fun i => (f i).1, ⟨some a, m, by simp, by simpa using hlc, hcm, fun i hi => ?_⟩, ?_, ?_, fun x hx => ?_⟩
    · have hi' : i < len := by simpa using hi
      obtain ⟨hr, _, _, spot, e, e2, hc⟩ := hf i hi'
      subst e2
      refine ⟨a.block, a.off, by rw [← e], trivial, ?_⟩
      simp only [List.getElem_map, List.getElem_range]
      exact ⟨hc 0 _ rfl, hc 1 _ rfl, hc 2 _ rfl, _, hc 3 _ rfl, hr⟩
    · have := bulk_allL ((List.range len).map D)
      rw [List.length_map] at this ⊢
      omega
    · exact Nat.le_trans (bulk_sumO f D (List.range len) fun i hi => (hf i (List.mem_range.1 hi)).2.1) hbd
    · obtain ⟨i, hi, rfl⟩ := List.mem_map.1 hx
      exact Nat.le_trans (Nat.le_trans (hf i (List.mem_range.1 hi)).2.2.1 (bulk_memL _ _ (List.mem_map.2 ⟨i, hi, rfl⟩))) hbd
end
theorem ops_bulk {H : Type} {d : DataW H} {l : List Opr} {n : Nat} (h : BulkO d l) (hb : Rows.uptoBulk d ≤ n) : l.length ≤ n ∧ sumT l ≤ n ∧ ∀ x ∈ l, x.w.length ≤ n := ⟨Nat.le_trans h.1 hb, Nat.le_trans h.2.1 hb, fun x hx => Nat.le_trans (h.2.2 x hx) hb⟩
end Go.Proofs.YtjohhahfpgfjdaaGreatDoor.Ir
end
