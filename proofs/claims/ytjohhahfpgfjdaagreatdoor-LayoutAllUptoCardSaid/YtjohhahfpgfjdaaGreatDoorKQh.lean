/- Layer 13, plain: of topics without lists and tables no sign is lost. -/
import Derived.Test.YtjohhahfpgfjdaaGreatDoorK25
import Derived.Test.YtjohhahfpgfjdaaGreatDoorK37
import Derived.Lib.DecodeNEq
namespace Go.Proofs.YtjohhahfpgfjdaaGreatDoor
set_option linter.unusedVariables false
set_option linter.unusedSimpArgs false
theorem cels_facts (s : ByteArray) : ∀ k, k ≤ (chars s).length → ∀ y ∈ celsOf ((chars s).take k), y.1 < y.2.1 ∧ y.2.1 ≤ s.size ∧ ∃ c ∈ chars s, c.1 = y.1
  | 0, _, y, hy => by simp [celsOf] at hy
  | k + 1, hk, y, hy => by
    have ih := cels_facts s k (by omega)
    have hlt : k < (chars s).length := by omega
    have hc : (chars s)[k]? = some ((chars s)[k]) := List.getElem?_eq_getElem hlt
    have hm := List.mem_of_getElem? hc
    have hw := chars_width s _ hm
    rw [celsOf_take hc] at hy
    rcases List.eq_nil_or_concat (celsOf ((chars s).take k)) with h0 | ⟨i0, y0, h0⟩
    · rw [h0, celStep_nil, List.mem_singleton] at hy
      subst hy
      exact ⟨by simp only [celNew]; omega, by simp only [celNew]; omega, _, hm, rfl⟩
    · rw [List.concat_eq_append] at h0
      by_cases hz : wid ((chars s)[k]).2.1 = 0
      · rw [h0, celStep_more _ _ _ hz] at hy
        rcases List.mem_append.1 hy with hy | hy
        · exact ih y (by rw [h0]; exact List.mem_append_left _ hy)
        · rw [List.mem_singleton] at hy
          subst hy
          obtain ⟨a1, a2, a3⟩ := ih y0 (by rw [h0]; simp)
          have h1 := (celsOf_last s k (by omega) i0 y0 h0).1
          rw [dif_pos hlt] at h1
          exact ⟨by simp only; omega, by simp only; omega, a3⟩
      · rw [celStep_new _ _ hz] at hy
        rcases List.mem_append.1 hy with hy | hy
        · exact ih y hy
        · rw [List.mem_singleton] at hy
          subst hy
          exact ⟨by simp only [celNew]; omega, by simp only [celNew]; omega, _, hm, rfl⟩
theorem cells_facts (s : ByteArray) : ∀ y ∈ cells s, y.1 < y.2.1 ∧ y.2.1 ≤ s.size ∧ ∃ c ∈ chars s, c.1 = y.1 := by
  intro y hy
  have := cels_facts s (chars s).length (Nat.le_refl _)
  rw [List.take_length] at this
  exact this y hy
theorem ascii_at {s : ByteArray} {i : Nat} {b : UInt8} (h : s.data[i]? = some b) (hb : b.toNat < 128) : Utf8.decode s i = (b.toNat, 1) := by
  have e : s.get! i = b := by
    show s.data[i]! = b
    rw [Array.getElem!_eq_getD, Array.getD_eq_getD_getElem?, h]
    rfl
  rw [Lib.decode_at, e]
  exact Lib.ascii_eq _ _ _ _ _ (by unfold Lib.firstT; rw [if_pos hb])
theorem cel_first {s : ByteArray} (hp : Ir.plainB s = true) {y : Cel} (hy : y ∈ cells s) {b : UInt8} (hb : b.toNat < 32) : (s.extract y.1 y.2.1).toList ≠ [b] := by
  intro e
  obtain ⟨h1, h2, c, hc, hcy⟩ := cells_facts s y hy
  have hd : s.data[y.1]? = some b := by
    rw [Lib.toList_data, ByteArray.data_extract] at e
    have e2 := congrArg (fun l => l[0]?) e
    simp only [Array.toList_extract, List.extract, List.getElem?_take, List.getElem?_drop, Nat.add_zero, List.getElem?_cons_zero] at e2
    rw [if_pos (by omega), Array.getElem?_toList] at e2
    exact e2
  have hat := (chars_at s c hc).2
  rw [hcy, ascii_at hd (by omega)] at hat
  have hu : unplain c = true := by
    unfold unplain ctl inB
    rw [hat]
    simp
    omega
  have hn : (chars s).find? unplain = none := by
    unfold Ir.plainB at hp
    rw [Option.isNone_iff_eq_none] at hp
    exact hp
  rw [List.find?_eq_none] at hn
  exact hn c hc hu
end Go.Proofs.YtjohhahfpgfjdaaGreatDoor
namespace Go.Proofs.YtjohhahfpgfjdaaGreatDoor.Tb
set_option linter.unusedVariables false
set_option linter.unusedSimpArgs false
/-- A cell of a text. -/
theorem celG_ok {y : Ly} {t : ByteArray} (h : Ir.plainB t = true) : ∀ c ∈ cells t, isT (celG y t c) = false ∧ isN (celG y t c) = false ∧ badG (celG y t c) = false := by
  intro c hc
  obtain ⟨h1, h2, _⟩ := cells_facts t c hc
  have h9 := cel_first h hc (b := 9) (by decide)
  have h10 := cel_first h hc (b := 10) (by decide)
  have hw := cel_wide _ c hc
  have hne : (t.extract c.1 c.2.1).toList ≠ [] := by
    intro e
    have e2 := congrArg List.length e
    rw [Lib.toList_data, ByteArray.data_extract] at e2
    simp only [Array.toList_extract, List.extract, List.length_take, List.length_drop, List.length_nil, Array.length_toList] at e2
    have : t.data.size = t.size := rfl
    omega
  refine ⟨by simpa [isT, celG, glY] using h9, by simpa [isN, celG, glY] using h10, ?_⟩
  have hz : ((celG y t c).t.toList == []) = false := by
    rw [beq_eq_false_iff_ne]; exact hne
  have hw1 : 1 ≤ (celG y t c).wd ∧ (celG y t c).wd ≤ 2 := by
    show 1 ≤ c.2.2 ∧ c.2.2 ≤ 2
    omega
  unfold badG
  rw [hz, decide_eq_true hw1.1, decide_eq_true hw1.2]
  simp
section
variable {Q : Gl → Prop}
theorem all_step2 (hb : ∀ g, Q (blank g)) {wide : Int} {s : Fs} (h : AllS Q s) (g : Gl) : AllS Q (stepS wide s g) := by
  unfold stepS
  split
  · unfold waitS
    split
    · exact ⟨h.1, h.2.1, fun x hx => by simp at hx; subst hx; exact hb g⟩
    · exact h
  · split
    · unfold tabS
      split
      · refine ⟨h.1, fun x hx => ?_, fun x hx => by simp at hx⟩
        rcases List.mem_append.1 hx with hx | hx
        · exact h.2.1 x hx
        · rw [(List.mem_replicate.1 hx).2]; exact hb g
      · exact all_end h
    · exact all_end h
theorem all_run2 (hb : ∀ g, Q (blank g)) {wide : Int} : ∀ (n : Nat) (s : Fs) (l : List Gl), AllS Q s → (∀ g ∈ l, sgn g = true → Q (fitG wide g)) → AllS Q (runS wide n s l)
  | 0, s, l, h, _ => h
  | n + 1, s, [], h, _ => h
  | n + 1, s, g :: l, h, hl => by
    unfold runS
    split
    · refine all_run2 hb n _ _ (all_foldl _ _ (all_laid (all_room h _)) fun x hx => ?_) fun y hy => hl y (List.mem_of_mem_drop hy)
      obtain ⟨y, hy, rfl⟩ := List.mem_map.1 hx
      exact hl y (firstW_sub _ y hy) (firstW_all _ y hy)
    · exact all_run2 hb n _ _ (all_step2 hb h g) fun y hy => hl y (List.mem_cons_of_mem _ hy)
theorem fill_all2 (hb : ∀ g, Q (blank g)) {wide : Int} {l : List Gl} (h : ∀ g ∈ l, sgn g = true → Q (fitG wide g)) : ∀ r ∈ fillL wide l, ∀ g ∈ r, Q g := by
  unfold fillL
  split
  · exact (all_endU (all_run2 hb l.length fs0 l ⟨fun r hr => by simp [fs0] at hr, fun r hr => by simp [fs0] at hr, fun r hr => by simp [fs0] at hr⟩ h)).1
  · intro r hr; simp at hr
end
/-- Neither a tab nor a break. -/
def NoTN (g : Gl) : Prop := isT g = false ∧ isN g = false
theorem noTN_sgn {g : Gl} (h : sgn g = true) : NoTN g := by
  unfold sgn noS at h
  simp at h
  exact ⟨h.1.2, h.2⟩
theorem noTN_blank (g : Gl) : NoTN (blank g) := by
  unfold NoTN isT isN blank
  rw [bl1_list]
  exact ⟨rfl, rfl⟩
theorem fill_noTN (wide : Int) (l : List Gl) : ∀ r ∈ fillL wide l, ∀ g ∈ r, NoTN g := fill_all2 noTN_blank fun g _ hs => noTN_sgn (sgn_fit hs)
/-- Signs, and their links. -/
def sk (l : List Gl) : List (ByteArray × Int) := (l.filter sgn).map fun g => (g.t, g.lk)
theorem sk_app (a b : List Gl) : sk (a ++ b) = sk a ++ sk b := by unfold sk; rw [List.filter_append, List.map_append]
theorem sk_no {l : List Gl} (h : ∀ g ∈ l, sgn g = false) : sk l = [] := by unfold sk; rw [filter_no h]; rfl
theorem sk_fill {wide : Int} (hw : 2 ≤ wide ∧ wide ≤ 200) {l : List Gl} (hb : ∀ g ∈ l, badG g = false) : sk (fillL wide l).flatten = sk l := by
  have he : fillE wide l = 0 := by
    unfold fillE
    rw [if_neg (by omega), if_neg]
    simp only [List.any_eq_true, not_exists, not_and]
    intro g hg
    rw [hb g hg]
    simp
  have hk := fill_keeps wide l
  unfold fillL
  rw [if_pos he]
  unfold sk
  unfold sgs at hk
  rw [hk]
  congr 1
  conv => rhs; rw [← List.map_id (l.filter sgn)]
  refine List.map_congr_left fun g hg => ?_
  obtain ⟨hg, hs⟩ := List.mem_filter.1 hg
  have hbg := hb g hg
  unfold fitG
  rw [if_neg]
  · rfl
  · unfold badG at hbg
    unfold sgn at hs
    rw [hs] at hbg
    simp at hbg
    omega
/-- What a topic's signs come to. -/
structure Al where
  want : List (ByteArray × Int)
  link : Int
  many : Nat
  deep : List Bool
def al0 : Al := ⟨[], 0, 0, []⟩
def notB (t : ByteArray) : Bool := !(t.toList == [32])
def cutC (t : ByteArray) (c : Cel) : ByteArray := t.extract c.1 c.2.1
def alT (t : ByteArray) (lk : Int) (l : List Cel) : List (ByteArray × Int) := (l.filter fun c => notB (cutC t c)).map fun c => (cutC t c, lk)
def alS (a : Al) (x : Opr) : Al :=
  if x.k = 1 then { a with want := a.want ++ alT x.t a.link (cells x.t) }
  else if x.k = 2 then { a with deep := a.deep ++ [false] }
  else if x.k = 3 ∨ x.k = 4 then { a with deep := a.deep ++ [true], many := a.many + 1, link := ((a.many + 1 : Nat) : Int) }
  else if x.k = 5 then { a with deep := a.deep.dropLast, link := if a.deep.getLast?.getD false then 0 else a.link }
  else a
def alRun (a : Al) (l : List Opr) : Al := l.foldl alS a
structure AlR (s : Wk) (y : Ly) (a : Al) : Prop where
  co : y.co.length = 0
  fl0 : y.mg = 0 ∧ y.sg.size = 0 ∧ y.pl = 0
  link : y.link = a.link
  many : y.lk.length = a.many
  deep : (y.lo.drop 2).map (·.2) = a.deep
  cl : ∀ g ∈ y.fl, badG g = false
  out : s.para = false → y.fl = []
  ln : ∀ l ∈ y.ls, ∀ g ∈ l, NoTN g
  want : y.more = false → sk y.ls.flatten ++ sk y.fl = a.want
theorem alR0 : AlR wk0 ly0 al0 := ⟨rfl, ⟨rfl, rfl, rfl⟩, rfl, rfl, rfl, fun g hg => by simp [ly0] at hg, fun _ => rfl, fun g hg => by simp [ly0] at hg, fun _ => rfl⟩
theorem lead_none {y : Ly} (h : y.mg = 0 ∧ y.sg.size = 0 ∧ y.pl = 0) : leadY y = [] := by
  unfold leadY blk letsL
  rw [h.2.2, h.2.1]
  rfl
theorem line_flat {y : Ly} (h : y.mg = 0 ∧ y.sg.size = 0 ∧ y.pl = 0) (l : List Gl) : lineY y l = tellY (freeY y) l := by
  unfold lineY
  rw [lead_none h]
  unfold blk
  rw [h.1]
  rfl
theorem tell_more {y : Ly} {l : List Gl} (h : (tellY y l).more = false) : y.more = false ∧ (tellY y l).ls = y.ls ++ [l] := by
  unfold tellY at h ⊢
  split
  · rename_i e; rw [if_pos e] at h; cases h
  · rename_i e; rw [if_neg e] at h; exact ⟨h, rfl⟩
theorem tell_flat {y : Ly} (h : y.mg = 0 ∧ y.sg.size = 0 ∧ y.pl = 0) (l : List Gl) : (tellY y l).mg = 0 ∧ (tellY y l).sg.size = 0 ∧ (tellY y l).pl = 0 := by
  unfold tellY
  split <;> exact h
theorem tell_ln {y : Ly} {l : List Gl} (h : ∀ r ∈ y.ls, ∀ g ∈ r, NoTN g) (hl : ∀ g ∈ l, NoTN g) : ∀ r ∈ (tellY y l).ls, ∀ g ∈ r, NoTN g := by
  unfold tellY
  split
  · exact h
  · intro r hr
    rcases List.mem_append.1 hr with hr | hr
    · exact h r hr
    · rw [List.mem_singleton] at hr; subst hr; exact hl
theorem fold_flat : ∀ (ls : List (List Gl)) (y : Ly), (y.mg = 0 ∧ y.sg.size = 0 ∧ y.pl = 0) → (∀ r ∈ y.ls, ∀ g ∈ r, NoTN g) → (∀ r ∈ ls, ∀ g ∈ r, NoTN g) →
    ((ls.foldl lineY y).mg = 0 ∧ (ls.foldl lineY y).sg.size = 0 ∧ (ls.foldl lineY y).pl = 0) ∧ (∀ r ∈ (ls.foldl lineY y).ls, ∀ g ∈ r, NoTN g) ∧ (ls.foldl lineY y).link = y.link ∧ ((ls.foldl lineY y).more = false → y.more = false ∧ (ls.foldl lineY y).ls = y.ls ++ ls)
  | [], y, h, hn, _ => ⟨h, hn, rfl, fun e => ⟨e, by simp⟩⟩
  | l :: ls, y, h, hn, hl => by
    have hf : (freeY y).mg = 0 ∧ (freeY y).sg.size = 0 ∧ (freeY y).pl = 0 := ⟨h.1, rfl, rfl⟩
    rw [List.foldl_cons, line_flat h]
    obtain ⟨i1, i2, i3, i4⟩ := fold_flat ls (tellY (freeY y) l) (tell_flat hf l) (tell_ln hn (hl l (by simp))) fun r hr => hl r (List.mem_cons_of_mem _ hr)
    refine ⟨i1, i2, i3.trans (by unfold tellY; split <;> rfl), fun e => ?_⟩
    obtain ⟨e1, e2⟩ := i4 e
    obtain ⟨e3, e4⟩ := tell_more e1
    exact ⟨e3, by rw [e2, e4]; simp [freeY]⟩
theorem lines_flat {y : Ly} (h : y.mg = 0 ∧ y.sg.size = 0 ∧ y.pl = 0) (ls : List (List Gl)) : linesY y ls = ls.foldl lineY y := by
  unfold linesY settleY
  rw [if_pos h.2.1, ite_self]
theorem alT_cel {y : Ly} {t : ByteArray} (h : Ir.plainB t = true) : sk ((cells t).map (celG y t)) = alT t y.link (cells t) := by
  unfold sk alT
  rw [List.filter_map, List.map_map]
  have e : (cells t).filter (sgn ∘ celG y t) = (cells t).filter fun c => notB (cutC t c) := by
    refine List.filter_congr fun c hc => ?_
    obtain ⟨h1, h2, _⟩ := celG_ok (y := y) h c hc
    show sgn (celG y t c) = _
    unfold sgn noS
    rw [h1, h2]
    simp [isB, notB, celG, glY, cutC]
  rw [e]
  rfl
theorem al_take {s : Wk} {y : Ly} {a : Al} {k T : Nat} {wd tp : Int} {ch : List S6.Chg} {x : Opr} {st : Int} (hw : 10 ≤ wd ∧ wd ≤ 200) (ho : LyOk s y k T) (h : AlR s y a) (hf : Ir.fitB x st tp = true) (hm : mayS s x.k = true) (h10 : x.k < 10) :
    AlR (takeS s x) (takeY wd ch y x) (alS a x) ∧ (x.k = 5 → 0 < a.deep.length) := by
  have hk1 : 1 ≤ x.k := by
    by_cases h : 1 ≤ x.k ∧ x.k ≤ 14
    · exact h.1
    · rw [Ir.may_other h] at hm; cases hm
  have hlo := ho.lo
  obtain ⟨kd, n, t, ws⟩ := x
  dsimp only at hk1 hm h10 ⊢
  have cs : kd = 1 ∨ kd = 2 ∨ kd = 3 ∨ kd = 4 ∨ kd = 5 ∨ kd = 6 ∨ kd = 7 ∨ kd = 8 ∨ kd = 9 := by omega
  have two : s.para = true → ∃ p q r, y.lo = p :: q :: r ∧ r.length = s.br.length ∧ r.map (·.2) = a.deep := fun hp => by
    rw [hp, if_pos rfl] at hlo
    have hd := h.deep
    match e : y.lo with
    | [] => rw [e] at hlo; simp at hlo; omega
    | [_] => rw [e] at hlo; simp at hlo; omega
    | p :: q :: r => rw [e] at hlo hd; exact ⟨p, q, r, rfl, by simp at hlo; omega, by simpa using hd⟩
  have one : s.para = false → ∃ p, y.lo = [p] := fun hp => by
    rw [hp] at hlo
    simp at hlo
    exact List.length_eq_one_iff.1 hlo
  rcases cs with rfl | rfl | rfl | rfl | rfl | rfl | rfl | rfl | rfl
  · rw [takeS_1, takeY_1]
    simp [mayS] at hm
    have hpl : Ir.plainB t = true := by simp [Ir.fitB] at hf; exact hf.1.1.1
    refine ⟨⟨h.co, h.fl0, h.link, h.many, h.deep, fun g hg => ?_, fun e => by simp [hm.1] at e, h.ln, fun e => ?_⟩, fun e => by cases e⟩
    · rcases List.mem_append.1 hg with hg | hg
      · exact h.cl g hg
      · obtain ⟨c, hc, rfl⟩ := List.mem_map.1 hg
        exact (celG_ok hpl c hc).2.2
    · have := h.want e
      show sk y.ls.flatten ++ sk (y.fl ++ (cells t).map (celG y t)) = a.want ++ alT t a.link (cells t)
      rw [sk_app, alT_cel hpl, ← List.append_assoc, this, h.link]
  · rw [takeS_br _ _ _ _ _ (by decide), takeY_2]
    simp [mayS] at hm
    obtain ⟨p, q, r, e1, e2, e3⟩ := two hm.2
    refine ⟨⟨h.co, h.fl0, h.link, h.many, ?_, h.cl, fun e => by simp [hm.2] at e, h.ln, h.want⟩, fun e => by cases e⟩
    simp [layY, e1, alS, e3]
  · rw [takeS_br _ _ _ _ _ (by decide), takeY_3]
    simp [mayS] at hm
    obtain ⟨p, q, r, e1, e2, e3⟩ := two hm.2
    refine ⟨⟨h.co, h.fl0, ?_, ?_, ?_, h.cl, fun e => by simp [hm.2] at e, h.ln, h.want⟩, fun e => by cases e⟩
    · simp [linkY, layY, alS, h.many]
    · simp [linkY, layY, alS, h.many]
    · simp [linkY, layY, e1, alS, e3]
  · rw [takeS_br _ _ _ _ _ (by decide), takeY_4]
    simp [mayS] at hm
    obtain ⟨p, q, r, e1, e2, e3⟩ := two hm.2
    refine ⟨⟨h.co, h.fl0, ?_, ?_, ?_, h.cl, fun e => by simp [hm.2] at e, h.ln, h.want⟩, fun e => by cases e⟩
    · simp [linkY, layY, alS, h.many]
    · simp [linkY, layY, alS, h.many]
    · simp [linkY, layY, e1, alS, e3]
  · rw [takeS_5, takeY_5]
    simp [mayS] at hm
    have hp : s.para = true := by
      cases e : s.para with
      | true => rfl
      | false => have := ho.br e; omega
    obtain ⟨p, q, r, e1, e2, e3⟩ := two hp
    have hr : r ≠ [] := fun e => by rw [e] at e2; simp at e2; omega
    obtain ⟨r0, z, rfl⟩ : ∃ r0 z, r = r0 ++ [z] := ⟨_, _, (List.dropLast_concat_getLast hr).symm⟩
    have hlen : 0 < a.deep.length := by rw [← e3]; simp
    refine ⟨?_, fun _ => hlen⟩
    have ec : closeY y = if z.2 = true then { offY y with link := 0 } else offY y := by
      unfold closeY
      rw [e1, show p :: q :: (r0 ++ [z]) = (p :: q :: r0) ++ [z] by simp, List.getLast?_concat]
      rfl
    have ed : a.deep = r0.map (·.2) ++ [z.2] := by rw [← e3]; simp
    have eo : (offY y).lo = p :: q :: r0 := by
      unfold offY
      simp only [e1]
      rw [show p :: q :: (r0 ++ [z]) = (p :: q :: r0) ++ [z] by simp, List.dropLast_concat]
    have ea : alS a ⟨5, n, t, ws⟩ = { a with deep := r0.map (·.2), link := if z.2 then 0 else a.link } := by
      simp [alS, ed]
    rw [ec, ea]
    cases hz : z.2 with
    | true =>
      simp only [if_pos]
      exact ⟨h.co, h.fl0, rfl, h.many, by simp only [eo]; rfl, h.cl, fun e => by simp [hp] at e, h.ln, h.want⟩
    | false =>
      simp only [Bool.false_eq_true, if_false]
      exact ⟨h.co, h.fl0, h.link, h.many, by simp only [eo]; rfl, h.cl, fun e => by simp [hp] at e, h.ln, h.want⟩
  · rw [takeS_6, takeY_6]
    simp [mayS] at hm
    have ht : noS (glY y tabB' 1) = true := by
      unfold noS isT tabB' glY
      rw [Lib.toList_data]
      simp
    refine ⟨⟨h.co, h.fl0, h.link, h.many, h.deep, fun g hg => ?_, fun e => by simp [hm] at e, h.ln, fun e => ?_⟩, fun e => by cases e⟩
    · rcases List.mem_append.1 hg with hg | hg
      · exact h.cl g hg
      · rw [List.mem_singleton] at hg; subst hg; unfold badG; rw [ht]; rfl
    · show sk y.ls.flatten ++ sk (y.fl ++ [glY y tabB' 1]) = a.want
      rw [sk_app, sk_no (l := [glY y tabB' 1]) (fun g hg => by rw [List.mem_singleton] at hg; subst hg; unfold sgn; rw [ht]; rfl), List.append_nil]
      exact h.want e
  · rw [takeS_7, takeY_7]
    simp [mayS] at hm
    have ht : noS (glY y nlB 1) = true := by
      unfold noS isN nlB glY
      rw [Lib.toList_data]
      simp
    refine ⟨⟨h.co, h.fl0, h.link, h.many, h.deep, fun g hg => ?_, fun e => by simp [hm] at e, h.ln, fun e => ?_⟩, fun e => by cases e⟩
    · rcases List.mem_append.1 hg with hg | hg
      · exact h.cl g hg
      · rw [List.mem_singleton] at hg; subst hg; unfold badG; rw [ht]; rfl
    · show sk y.ls.flatten ++ sk (y.fl ++ [glY y nlB 1]) = a.want
      rw [sk_app, sk_no (l := [glY y nlB 1]) (fun g hg => by rw [List.mem_singleton] at hg; subst hg; unfold sgn; rw [ht]; rfl), List.append_nil]
      exact h.want e
  · rw [takeS_8, takeY_8]
    simp [mayS] at hm
    obtain ⟨p, e1⟩ := one hm.1
    have hfl := h.out hm.1
    have hde : a.deep = [] := by rw [← h.deep, e1]; rfl
    refine ⟨?_, fun e => by cases e⟩
    obtain ⟨y1, hy, c1, c2, c3, c4⟩ : ∃ y1 : Ly, (if y.ah = 9 ∧ y.co.length = 0 then tellY y [] else y) = y1 ∧ Sm y1 y ∧ (y1.mg = 0 ∧ y1.sg.size = 0 ∧ y1.pl = 0) ∧ (y1.link = y.link ∧ ∀ l ∈ y1.ls, ∀ g ∈ l, NoTN g) ∧ (y1.more = false → y.more = false ∧ y1.ls.flatten = y.ls.flatten) := by
      refine ⟨_, rfl, ?_⟩
      split
      · refine ⟨sm_tell y [], tell_flat h.fl0 [], ⟨by unfold tellY; split <;> rfl, tell_ln h.ln fun g hg => by simp at hg⟩, fun e => ?_⟩
        obtain ⟨b1, b2⟩ := tell_more e
        exact ⟨b1, by rw [b2]; simp⟩
      · exact ⟨Sm.refl y, h.fl0, ⟨rfl, h.ln⟩, fun e => ⟨e, rfl⟩⟩
    have eb : beginY ch y n = layY { y1 with fl := [] } (styledK ch y1 n) false := by unfold beginY; rw [hy]
    rw [eb]
    refine ⟨by simp only [layY, c1.co]; exact h.co, c2, by simp only [layY, c3.1]; exact h.link, by simp only [layY, c1.lk]; exact h.many, ?_, fun g hg => by simp [layY] at hg, fun _ => rfl, c3.2, fun e => ?_⟩
    · simp only [layY, c1.lo, e1]
      exact hde.symm
    · obtain ⟨b1, b2⟩ := c4 e
      have := h.want b1
      rw [hfl] at this
      show sk y1.ls.flatten ++ sk [] = a.want
      rw [b2]
      exact this
  · rw [takeS_9, takeY_9]
    simp [mayS] at hm
    obtain ⟨p, q, r, e1, e2, e3⟩ := two hm.1
    have hr : r = [] := List.eq_nil_of_length_eq_zero (by rw [e2, hm.2]; rfl)
    subst hr
    refine ⟨?_, fun e => by cases e⟩
    have hde : a.deep = [] := by rw [← e3]; rfl
    have ed : doneY wd y = { linesY (offY y) (fillL (wd - y.mg) y.fl) with fl := [] } := by unfold doneY; rw [if_pos h.co]
    have hof : (offY y).mg = 0 ∧ (offY y).sg.size = 0 ∧ (offY y).pl = 0 := h.fl0
    rw [ed, lines_flat hof]
    obtain ⟨i1, i2, i3, i4⟩ := fold_flat (fillL (wd - y.mg) y.fl) (offY y) hof h.ln (fill_noTN _ _)
    have e := sm_fold sm_line (fillL (wd - y.mg) y.fl) (offY y)
    refine ⟨by simp only [e.co]; exact h.co, i1, i3.trans h.link, by simp only [e.lk]; exact h.many, ?_, fun g hg => by simp at hg, fun _ => rfl, i2, fun hmo => ?_⟩
    · have e5 : ((fillL (wd - y.mg) y.fl).foldl lineY (offY y)).lo = [p] := by rw [e.lo]; unfold offY; simp [e1]
      show (((fillL (wd - y.mg) y.fl).foldl lineY (offY y)).lo.drop 2).map (·.2) = a.deep
      rw [e5, hde]
      rfl
    · obtain ⟨b1, b2⟩ := i4 hmo
      have := h.want b1
      simp only
      rw [b2, List.flatten_append, sk_app, sk_fill (by have := h.fl0.1; omega) h.cl]
      show sk y.ls.flatten ++ sk y.fl ++ sk [] = a.want
      rw [this]
      simp [sk]
theorem al_run {wd tp : Int} {ch : List S6.Chg} {st : Int} (hw : 10 ≤ wd ∧ wd ≤ 200) : ∀ (l : List Opr) (s : Wk) (y : Ly) (a : Al) (k T i : Nat), LyOk s y k T → AlR s y a → (∀ x ∈ l, x.k < 10) → (Ir.runM st tp l s i).2 = 0 →
    (∀ (j : Nat) (hj : j < l.length), l[j].k = 5 → 0 < (alRun a (l.take j)).deep.length) ∧ ∃ s', AlR s' (l.foldl (takeY wd ch) y) (alRun a l) ∧ endedB s' = true
  | [], s, y, a, k, T, i, ho, h, _, hr => by
    refine ⟨fun j hj => absurd hj (by simp), s, h, ?_⟩
    cases e : endedB s with
    | true => rfl
    | false => unfold Ir.runM at hr; rw [e] at hr; simp at hr
  | x :: l, s, y, a, k, T, i, ho, h, hx, hr => by
    unfold Ir.runM at hr
    cases e : (Ir.fitB x st tp && mayS s x.k) with
    | false => rw [e] at hr; simp at hr
    | true =>
      rw [e, if_pos rfl] at hr
      rw [Bool.and_eq_true] at e
      obtain ⟨h1, h2⟩ := al_take (wd := wd) (ch := ch) hw ho h e.1 e.2 (hx x (by simp))
      obtain ⟨i1, i2⟩ := al_run hw l _ _ _ _ _ _ (take_ok hw ho e.1 e.2) h1 (fun z hz => hx z (List.mem_cons_of_mem _ hz)) hr
      refine ⟨fun j hj hk => ?_, i2⟩
      match j with
      | 0 => exact h2 hk
      | j + 1 => exact i1 j (by simpa using hj) hk
theorem alT_len (t : ByteArray) (lk : Int) (l : List Cel) : (alT t lk l).length ≤ l.length := by
  unfold alT
  rw [List.length_map]
  exact List.length_filter_le _ _
theorem al_len : ∀ (l : List Opr) (a : Al), (alRun a l).want.length ≤ a.want.length + Ir.sumT l ∧ (alRun a l).many ≤ a.many + l.length ∧ (alRun a l).deep.length ≤ a.deep.length + l.length
  | [], a => ⟨by simp [alRun, Ir.sumT], by simp [alRun], by simp [alRun]⟩
  | x :: l, a => by
    have ih := al_len l (alS a x)
    have h1 : (alS a x).want.length ≤ a.want.length + x.t.size ∧ (alS a x).many ≤ a.many + 1 ∧ (alS a x).deep.length ≤ a.deep.length + 1 := by
      have h2 := alT_len x.t a.link (cells x.t)
      have h3 := cells_len x.t
      unfold alS
      repeat' split
      all_goals simp
      all_goals omega
    simp only [alRun, List.foldl_cons, Ir.sumT, List.length_cons] at ih ⊢
    omega
/-- What LayoutAll asks of a layout. -/
structure AllL (d : Ld) (l : List Opr) : Prop where
  num : d.lines.length ≤ 2000
  wd : ∀ r ∈ d.lines, r.length ≤ 1000
  pops : ∀ (j : Nat) (hj : j < l.length), l[j].k = 5 → 0 < (alRun al0 (l.take j)).deep.length
  sum : Ir.sumT l ≤ 16384
  ln : ∀ r ∈ d.lines, ∀ g ∈ r, NoTN g
  want : d.more = false → sk d.lines.flatten = (alRun al0 l).want
  many : d.links.length = (alRun al0 l).many
theorem allL_of {sh : List S6.Sty} {l : List Opr} {tp wd : Int} (h : layE sh l tp wd = 0) (hx : ∀ x ∈ l, x.k < 10) : AllL (layL sh l tp wd) l := by
  obtain ⟨hw, h1, h2, h3⟩ := layL_ok h
  obtain ⟨e, _, s, k, T, ho, hg⟩ := lay_g h
  obtain ⟨p1, s', p2, p3⟩ := al_run (wd := wd) (ch := chgs sh) hw l wk0 ly0 al0 0 0 0 lyOk0 alR0 hx h3
  have hr : l.foldl (takeY wd (chgs sh)) ly0 = runY wd (chgs sh) l := rfl
  rw [hr] at p2
  rw [e]
  obtain ⟨y, hy⟩ : ∃ y, runY wd (chgs sh) l = y := ⟨_, rfl⟩
  rw [hy] at ho hg p2 ⊢
  have hp : s'.para = false := by unfold endedB at p3; simp at p3; exact p3.1
  refine ⟨ho.mok.ls, ho.lns.1, p1, h2, p2.ln, fun hmo => ?_, p2.many⟩
  have := p2.want hmo
  rw [p2.out hp, show sk [] = [] from rfl, List.append_nil] at this
  exact this
end Go.Proofs.YtjohhahfpgfjdaaGreatDoor.Tb
