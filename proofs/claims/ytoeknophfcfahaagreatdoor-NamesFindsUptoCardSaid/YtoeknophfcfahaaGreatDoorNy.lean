/- The program's Near of layer 7. -/
import Derived.Test.YtoeknophfcfahaaGreatDoorNx
namespace Go.Proofs.YtoeknophfcfahaaGreatDoor
open Go.RowKit Go.Maps Go.Shelf
set_option linter.unusedVariables false

attribute [local go_sem] Oper.semAt_some

theorem nm_size (s : ByteArray) : (nm s).size ≤ 320 := by
  unfold nm nrm
  split
  · exact Nat.zero_le _
  · split
    · exact Nat.zero_le _
    · have := fold_size s
      show (fold s).size ≤ 320
      omega
/-- What has been gathered of the nearest, and how near they are. -/
def stepN (ns : List ByteArray) (f : ByteArray) (st : Nat × List Nat) (i : Nat) : Nat × List Nat :=
  if apartN (nm (ns.getD i ByteArray.empty)) f < st.1 then (apartN (nm (ns.getD i ByteArray.empty)) f, [i])
  else if apartN (nm (ns.getD i ByteArray.empty)) f = st.1 then (st.1, st.2 ++ [i]) else st
def nearOf (ns : List ByteArray) (f : ByteArray) (l : List Nat) : Nat × List Nat := l.foldl (stepN ns f) (3, [])
theorem nearOf_snoc (ns : List ByteArray) (f : ByteArray) (l : List Nat) (i : Nat) : nearOf ns f (l ++ [i]) = stepN ns f (nearOf ns f l) i := by simp [nearOf]
theorem nearOf_le (ns : List ByteArray) (f : ByteArray) (l : List Nat) : (nearOf ns f l).1 ≤ 3 ∧ (nearOf ns f l).2.length ≤ l.length := by
  unfold nearOf
  suffices h : ∀ (l : List Nat) (st : Nat × List Nat), st.1 ≤ 3 → (l.foldl (stepN ns f) st).1 ≤ 3 ∧ (l.foldl (stepN ns f) st).2.length ≤ st.2.length + l.length by
    have := h l (3, []) (Nat.le_refl _)
    simpa using this
  intro l
  induction l with
  | nil => intro st h; exact ⟨h, Nat.le_refl _⟩
  | cons i l ih =>
    intro st h
    have h1 : (stepN ns f st i).1 ≤ 3 ∧ (stepN ns f st i).2.length ≤ st.2.length + 1 := by
      unfold stepN
      split
      · rename_i hh
        exact ⟨by show apartN _ _ ≤ 3; omega, by simp⟩
      · split
        · exact ⟨h, by simp⟩
        · exact ⟨h, Nat.le_succ _⟩
    have h2 := ih (stepN ns f st i) h1.1
    simp only [List.foldl_cons, List.length_cons]
    exact ⟨h2.1, by omega⟩
/-- The nearest names, in their order. -/
def nearN (ns : List ByteArray) (s : ByteArray) : List Nat := if (nrm s).2 = 0 then (nearOf ns (nm s) (srt ns)).2 else []

/-- What the loop holds between two rounds. -/
def NearI (B Bm Bt : Nat) (p : Value) (W0 : World) {α : Type} (g : α → Nat × List Nat) (pre : α) (W : World) : Prop :=
  (∃ v, Boxed W B 36 v ∧ W.ownsRow B 3 1 v (g pre).2.length (numsV (g pre).2) ∧ v.ownBlock ≠ some Bm) ∧ Boxed W Bm 3 (.int .i64 ((g pre).1 : Nat)) ∧ Boxed W Bt 24 p ∧ Below B W0 W
theorem NearI.below {B Bm Bt : Nat} {p : Value} {W0 : World} {α : Type} {g : α → Nat × List Nat} {pre : α} {W W' : World} (h : NearI B Bm Bt p W0 g pre W) (hb : Below W.heap.size W W') : NearI B Bm Bt p W0 g pre W' := by
  obtain ⟨⟨v, h1, h2, h0⟩, h5, h3, h4⟩ := h
  exact ⟨⟨v, Boxed.below h1 hb, own_stays h2 fun c e => hb.block c (own_base h2 e).2, h0⟩, Boxed.below h5 hb, Boxed.below h3 hb, h4.trans (hb.mono (Nat.le_of_lt h1.lt))⟩
theorem NearI.own {B Bm Bt : Nat} {p : Value} {W0 : World} {α : Type} {g : α → Nat × List Nat} {D : Nat} (hBD : B ≤ D) (hs : B ≤ W0.heap.size) : OwnFrom D (NearI B Bm Bt p W0 g) :=
  OwnFrom.and (Own.from (holdsRow_own B B 36 3 1 (fun s => (g s).2.length) (fun s => numsV (g s).2) (fun _ v => v.ownBlock ≠ some Bm)) _) (OwnFrom.and (Own.from (boxed_own Bm 3 (fun s => .int .i64 ((g s).1 : Nat))) _) (OwnFrom.and (Own.from (boxed_own Bt 24 (fun _ => p)) _) (ownFrom_below hs hBD)))
theorem own_new_ne {W : World} {Bm : Nat} {u v v' : Value} {o : Obj} (hm : Boxed W Bm 3 u) (hne : v.ownBlock ≠ some Bm) (hat : v'.ownBlock = v.ownBlock ∨ v'.ownBlock = some (W.alloc o).heap.size) : v'.ownBlock ≠ some Bm := by
  have hl := hm.lt
  rcases hat with h | h
  · rw [h]; exact hne
  · rw [h]; intro e; simp at e; omega
theorem box_append {W w1 : World} {Bm B : Nat} {u v x : Value} {o : Obj} (hm : Boxed W Bm 3 u) (hBm : Bm ≠ B) (hgrow : (W.alloc o).grownBy w1 v.ownBlock) (hne : v.ownBlock ≠ some Bm) (hv1 : Boxed w1 B 36 x) (v' : Value) : Boxed (w1.setCell ⟨B, 0, none⟩ v') Bm 3 u :=
  (Below.heap_setCell _ _ _ _ hBm).trans ((hm.alloc o).kept hgrow (fun e => hne e.symm))
/-- What is kept where the list is emptied and the least is set. -/
theorem kpE_reset {B Bm Bt D : Nat} {W : World} {p v u : Value} (hv : Boxed W B 36 v) (hm : Boxed W Bm 3 u) (hbt : Boxed W Bt 24 p) (hBm : B < Bm) (hBt : Bm < Bt) (hD : Bt < D) (st : Int) :
    KpE B B Bt D W ((W.setCell ⟨Bm, 0, none⟩ (.int .i64 st)).setCell ⟨B, 0, none⟩ (.slice none 0 0)) ∧ Boxed ((W.setCell ⟨Bm, 0, none⟩ (.int .i64 st)).setCell ⟨B, 0, none⟩ (.slice none 0 0)) B 36 (.slice none 0 0) ∧
      Boxed ((W.setCell ⟨Bm, 0, none⟩ (.int .i64 st)).setCell ⟨B, 0, none⟩ (.slice none 0 0)) Bm 3 (.int .i64 st) ∧ Boxed ((W.setCell ⟨Bm, 0, none⟩ (.int .i64 st)).setCell ⟨B, 0, none⟩ (.slice none 0 0)) Bt 24 p ∧
      KeepsOthers W ((W.setCell ⟨Bm, 0, none⟩ (.int .i64 st)).setCell ⟨B, 0, none⟩ (.slice none 0 0)) ∧ Below B W ((W.setCell ⟨Bm, 0, none⟩ (.int .i64 st)).setCell ⟨B, 0, none⟩ (.slice none 0 0)) := by
  have k : ∀ c, c ≠ B → c ≠ Bm → ((W.setCell ⟨Bm, 0, none⟩ (.int .i64 st)).setCell ⟨B, 0, none⟩ (.slice none 0 0)).heap[c]? = W.heap[c]? := fun c h1 h2 => (Below.heap_setCell _ _ _ _ h1).trans (Below.heap_setCell _ _ _ _ h2)
  have h1 : Boxed ((W.setCell ⟨Bm, 0, none⟩ (.int .i64 st)).setCell ⟨B, 0, none⟩ (.slice none 0 0)) B 36 (.slice none 0 0) := Boxed.set _ ((Below.heap_setCell _ _ _ _ (by show B ≠ Bm; omega)).trans hv)
  have h2 : Boxed ((W.setCell ⟨Bm, 0, none⟩ (.int .i64 st)).setCell ⟨B, 0, none⟩ (.slice none 0 0)) Bm 3 (.int .i64 st) := (Below.heap_setCell _ _ _ _ (by show Bm ≠ B; omega)).trans (hm.set _)
  have h3 : Boxed ((W.setCell ⟨Bm, 0, none⟩ (.int .i64 st)).setCell ⟨B, 0, none⟩ (.slice none 0 0)) Bt 24 p := (k Bt (by omega) (by omega)).trans hbt
  have h5 : Below B W ((W.setCell ⟨Bm, 0, none⟩ (.int .i64 st)).setCell ⟨B, 0, none⟩ (.slice none 0 0)) := ((Below.refl B W).setCell (p := ⟨Bm, 0, none⟩) (by show B ≤ Bm; omega) _).setCell (p := ⟨B, 0, none⟩) (Nat.le_refl _) _
  refine ⟨⟨h5, fun w hw => ?_, fun w hw => ?_⟩, h1, h2, h3, (KeepsOthers.setCell _ _ _).trans (KeepsOthers.setCell _ _ _), h5⟩
  · rw [hbt.cell] at hw
    cases hw
    exact h3.cell
  · rw [hv.cell] at hw
    cases hw
    exact ⟨_, h1.cell, .inr (fun c e => by cases e), fun c cur T fr hDc hc hne => (k c (by omega) (by omega)).trans hc⟩

set_option maxRecDepth 100000 in
set_option maxHeartbeats 8000000 in
theorem near_yes (ns : List ByteArray) (p : Value) (s : ByteArray) (w : World) (hp : TP w p ns) (hns : ns.length ≤ 1000) (hT : Tabs w) (hpl : (nrm s).2 = 0) :
    CallsIn Fence.wide 12 Tryz.prog 17 #[p, .string s] w (NewI (nearOf ns (nm s) (srt ns)).2 w) := by
  have hf0 : Fence.wide.fn 38 := trivial
  have hf1 : Fence.wide.fn 80 := trivial
  have hf2 : Fence.wide.fn 26 := trivial
  have hf3 : Fence.wide.fn 27 := trivial
  have HP := Lib.hid hp
  have HNS := Lib.hid hns
  have HT := Lib.hid hT
  have HPL := Lib.hid hpl
  obtain ⟨pa, rfl⟩ := hp.form
  obtain ⟨f, hf⟩ : ∃ f, nm s = f := ⟨_, rfl⟩
  rw [hf]
  have HF := Lib.hid hf
  have hfs := nm_size s
  rw [hf] at hfs
  have HFS := Lib.hid hfs
  clear hp hns hT hpl hf hfs
  refine callsIn_of_wp_marks Tryz.func17 rfl trivial ?_ rfl
  simp only [Tryz.ntmps17, List.size_toArray, List.length_cons, List.length_nil, Nat.reduceAdd, Nat.reduceSub, Array.replicate_succ, Array.replicate_zero, List.push_toArray, List.append_toArray, List.nil_append, List.cons_append]
  have hb0 : Below w.heap.size w (w.alloc (.cells #[.pointer pa] 24)) := (Below.refl _ w).alloc (Nat.le_refl _) _
  have HB0 := Lib.hid hb0
  have HX0 := Lib.hid (Boxed.new w 24 (.pointer pa))
  have HQ := Lib.hid (norm_pro s _ (HT.out.below hb0 (Nat.le_refl _)))
  clear hb0
  gi_wp2_with (gi_at_call 26; refine (callsIn_wide.2 HQ.out).mono ?_; rintro e w2 ⟨he, hb1⟩; rw [HPL.out, show (nrm s).1 = f from HF.out] at he; subst he; have HB2 := Lib.hid (HB0.out.trans (hb1.mono HB0.out.size)); have HX2 := Lib.hid (Boxed.below HX0.out hb1); have c0 := (((HX2.out.alloc (.cells #[.string f] 9)).alloc (.cells #[.slice none 0 0] 36)).alloc (.cells #[.int .i64 3] 3)).cell; clear hb1)
  refine (each_in 11 _ _ ⟨_, rfl⟩).mono ?_
  rintro e w3 ⟨rfl, rfl⟩
  gi_wp2_with fail
  have bF := ((((Boxed.new w2 9 (.string f)).alloc (.cells #[.slice none 0 0] 36)).alloc (.cells #[.int .i64 3] 3)).alloc (.cells #[.pointer pa] 24))
  have bL := ((Boxed.new (w2.alloc (.cells #[.string f] 9)) 36 (.slice none 0 0)).alloc (.cells #[.int .i64 3] 3)).alloc (.cells #[.pointer pa] 24)
  have bM := (Boxed.new ((w2.alloc (.cells #[.string f] 9)).alloc (.cells #[.slice none 0 0] 36)) 3 (.int .i64 3)).alloc (.cells #[.pointer pa] 24)
  have bT := Boxed.new (((w2.alloc (.cells #[.string f] 9)).alloc (.cells #[.slice none 0 0] 36)).alloc (.cells #[.int .i64 3] 3)) 24 (.pointer pa)
  have bP := (((HX2.out.alloc (.cells #[.string f] 9)).alloc (.cells #[.slice none 0 0] 36)).alloc (.cells #[.int .i64 3] 3)).alloc (.cells #[.pointer pa] 24)
  have hA1 : Below w2.heap.size w2 (w2.alloc (.cells #[.string f] 9)) := (Below.refl _ w2).alloc (Nat.le_refl _) _
  have hA3 : Below (w2.heap.size + 1) (w2.alloc (.cells #[.string f] 9)) ((((w2.alloc (.cells #[.string f] 9)).alloc (.cells #[.slice none 0 0] 36)).alloc (.cells #[.int .i64 3] 3)).alloc (.cells #[.pointer pa] 24)) := (((Below.refl _ _).alloc (by simp) _).alloc (by simp) _).alloc (by simp) _
  have hTP := (HP.out.below HB2.out).below hA1
  have hsz : ((((w2.alloc (.cells #[.string f] 9)).alloc (.cells #[.slice none 0 0] 36)).alloc (.cells #[.int .i64 3] 3)).alloc (.cells #[.pointer pa] 24)).heap.size = w2.heap.size + 4 := by simp
  simp only [World.size_alloc] at bL bT bM
  have hw1 : (w2.alloc (.cells #[.string f] 9)).heap.size = w2.heap.size + 1 := by simp
  obtain ⟨w9, hw9⟩ : ∃ w9, (w2.alloc (.cells #[.string f] 9)) = w9 := ⟨_, rfl⟩
  rw [hw9] at bF bL bT bP bM hA3 hTP hsz hw1 hA1 ⊢
  obtain ⟨W0, hW0⟩ : ∃ W0, ((w9.alloc (.cells #[.slice none 0 0] 36)).alloc (.cells #[.int .i64 3] 3)).alloc (.cells #[.pointer pa] 24) = W0 := ⟨_, rfl⟩
  rw [hW0] at bF bL bT bP bM hA3 hsz ⊢
  have HBW := Lib.hid (HB2.out.trans (hA1.mono HB2.out.size))
  have hW2 := HB2.out.size
  clear hW0 hw9 c0 hA1
  have HTP := Lib.hid hTP
  have HA3 := Lib.hid hA3
  have HNL := Lib.hid (srt_len ns)
  obtain ⟨i0, hi0, hz0, hz1, hz2⟩ := info_parts infoI
  refine wpIn_rangeFunc_ownH rfl (by omega) (gf := 80) (lb := #[.pointer (some ⟨w2.heap.size + 1 + 1 + 1, 0, none⟩)]) rfl trivial (enters_of Tryz.func80 (by kernel_rfl) rfl)
    (each_stops (12 - 1) (by omega) (w2.heap.size + 1 + 1 + 1) (w2.heap.size + 1) (w2.heap.size + 1) (.pointer pa) ns HNS.out w9 hTP (by omega) W0 hA3 (by omega) bT.cell _ bL.cell (fun c e => by cases e)) KpE.t (fun W l o o' hl h hc hw => KpE.put W l o o' (by omega) h hc hw) (Below.refl _ _) (fun _ => rfl)
    (NearI (w2.heap.size + 1) (w2.heap.size + 1 + 1) (w2.heap.size + 1 + 1 + 1) (.pointer pa) W0 (fun pre : List (NmI ns.length) => nearOf ns f (pre.map (·.1))))
    (fun _ _ _ => False)
    (NearI.own (by omega) (by omega))
    (fun _ _ _ _ _ hs _ _ => hs)
    ⟨⟨_, bL, World.ownsRow_nil _ _ _ _, fun e => by cases e⟩, bM, bT, Below.refl _ _⟩
    (fun x a' W => a' = { tmps := #[.pointer pa, .string s, .pointer (some ⟨w.heap.size, 0, none⟩), undef, .slice none 0 0, .pointer (some ⟨w2.heap.size, 0, none⟩), .int .i64 0, .pointer (some ⟨w2.heap.size + 1, 0, none⟩), .pointer (some ⟨w2.heap.size + 1 + 1, 0, none⟩), .int .i64 (x.1 : Nat), undef, .tuple #[.string f, .int .i64 0], .string s, .tuple #[.string f, .int .i64 0], .string f, .int .i64 0, .int .i64 0, .bool false, .pointer pa, .func (.func 80) #[] #[.pointer (some ⟨w2.heap.size + 1 + 1 + 1, 0, none⟩)], .int .i64 (x.1 : Nat), .string (ns.getD x.1 ByteArray.empty), undef, undef, undef, undef, undef, undef, undef, undef, undef, undef, undef, undef, undef, undef, undef, undef, undef, undef, undef, undef, undef], defers := [] })
    (fun x a' _ X Y row hs hg hr => hs)
    ?assign ?body ?done ?stop
  case assign =>
    rintro l' pre x W K hI hK
    simp only [nmA]
    gi_wp2
    exact hK _ _ ((KeepsOthers.refl _).from _) (KpE.refl _ _ _ _ _) hI rfl
  case body =>
    have HSZ := Lib.hid hsz
    rintro l' pre x a' W hl ⟨r, hr⟩ hI rfl hlt
    obtain ⟨i, hin⟩ := x
    have hBW := hI.2.2.2
    have d0 := (hBW.cell (p := ⟨w.heap.size, 0, none⟩) (by show w.heap.size < _; omega)).trans bP.cell
    have d1 := (hBW.cell (p := ⟨w2.heap.size, 0, none⟩) (by show w2.heap.size < _; omega)).trans bF.cell
    have hbr : Below (w2.heap.size + 1) w9 W := HA3.out.trans hBW
    rcases HTP.out.below (hbr.mono (by omega)) with ⟨_, hnil⟩ | ⟨b, nv, gv, mv, sv, e, hT⟩
    · rw [hnil] at hin; simp at hin
    cases e
    have hgl : (ns.map nm).length = ns.length := by simp
    obtain ⟨pg, cap, rfl, _, _⟩ := hT.gg.form
    obtain ⟨nb, no, rfl, hnc⟩ := hT.gg.cell (j := i) (by rw [hgl]; exact hin)
    have c1 := hT.c1
    obtain ⟨n1, hn1⟩ : ∃ n1, nm (ns.getD i ByteArray.empty) = n1 := ⟨_, rfl⟩
    have HN1 := Lib.hid hn1
    have hns1 := nm_size (ns.getD i ByteArray.empty)
    rw [hn1] at hns1
    rw [show (ns.map nm)[i]'(by rw [hgl]; exact hin) = n1 by rw [← hn1, getD_get hin]; simp] at hnc
    have k0 := cell_regrown d0
    have k1 := cell_regrown d1
    have k2 := cell_regrown c1
    have k3 := cell_regrown hnc
    obtain ⟨st, hst⟩ : ∃ st, apartN n1 f = st := ⟨_, rfl⟩
    have HST := Lib.hid hst
    have cQ : ∀ d os, Calls Tryz.prog 27 #[.string n1, .string f] (Sort.grow (redrawn W d) os) fun e w'' => e = .returned (.int .i64 (st : Nat)) ∧ ∃ p : Regrown, w'' = Sort.grow (redrawn W p.d) p.os :=
      fun d os => Calls.regrown_of ((apart_pro n1 f _ (by omega) (by have := HFS.out; omega)).mono fun _ _ ⟨h1, h2⟩ => ⟨by rw [h1, HST.out], h2⟩)
    have hix : (i : Int) < (ns.map nm).length := by omega
    have HI := Lib.hid hI
    have HLT := Lib.hid hlt
    obtain ⟨nl, hnl⟩ : ∃ nl, (ns.map nm).length = nl := ⟨_, rfl⟩
    rw [hnl] at hix k2
    clear hI hBW hbr hT d0 d1 c1 hnc hst hgl hn1 hnl hlt hsz hns1
    gi_wp2
    refine region_inRound_below (by kernel_rfl) (by kernel_rfl) (by kernel_rfl) ?_
    repeat (quiet_step (first | exact cQ _ _))
    refine wpQuiet_nil ?_
    intro _ hw'
    obtain ⟨⟨dq, osq⟩, hw''⟩ := hw'
    subst hw''
    clear k0 k1 k2 k3 cQ
    have hWq := below_regrown W dq osq
    obtain ⟨Wq, hWe⟩ : ∃ Wq, Sort.grow (redrawn W dq) osq = Wq := ⟨_, rfl⟩
    rw [hWe] at hWq ⊢
    have HWQ := Lib.hid hWq
    have HIQ := Lib.hid (HI.out.below hWq)
    have HKQ := Lib.hid (KpE.of_below (B := w2.heap.size + 1) (Bl := w2.heap.size + 1) (Bt := w2.heap.size + 1 + 1 + 1) (D := W0.heap.size) hWq (by have := HI.out.2.2.2.size; have := HSZ.out; omega))
    clear hWe hWq
    obtain ⟨⟨v, bV1, hr1, hvm⟩, bM1, bT1, hB1⟩ := HIQ.out
    have HVM := Lib.hid hvm
    obtain ⟨⟨m, zs⟩, hmz⟩ : ∃ mz, nearOf ns f (pre.map (·.1)) = mz := ⟨_, rfl⟩
    have hnl := nearOf_le ns f (pre.map (·.1))
    simp only [hmz] at hr1 bM1 hnl
    have HMZ := Lib.hid hmz
    rw [List.length_map] at hnl
    have hm3 : m ≤ 3 := hnl.1
    have hzl : zs.length ≤ 1000 := by have := HNS.out; have := HLT.out; omega
    have HSN := Lib.hid (show nearOf ns f ((pre ++ [(⟨i, hin⟩ : NmI ns.length)]).map (·.1)) = if st < m then (st, [i]) else if st = m then (m, zs ++ [i]) else (m, zs) by
      rw [List.map_append, List.map_cons, List.map_nil, nearOf_snoc, hmz]
      unfold stepN
      rw [HN1.out, HST.out])
    have cM := bM1.cell
    have cV := bV1.cell
    have fM := bM1.frozen
    have fV := bV1.frozen
    have HBV := Lib.hid bV1
    have HBM := Lib.hid bM1
    have HBT := Lib.hid bT1
    have HR := Lib.hid hr1
    have HB := Lib.hid hB1
    clear hmz hnl bV1 bM1 bT1 hr1 hB1 hvm
    by_cases hlt1 : st < m
    · have q1 : (st : Int) < m := by omega
      obtain ⟨hK5, hV5, hM5, hT5, hO5, hB5⟩ := kpE_reset (D := W0.heap.size) HBV.out HBM.out HBT.out (by omega) (by omega) (by have := HSZ.out; omega) (st : Int)
      have HK5 := Lib.hid hK5
      have HV5 := Lib.hid hV5
      have HM5 := Lib.hid hM5
      have HT5 := Lib.hid hT5
      have HO5 := Lib.hid hO5
      have HB5 := Lib.hid hB5
      have HR5 := Lib.hid (World.ownsRow_nil ((Wq.setCell ⟨w2.heap.size + 1 + 1, 0, none⟩ (.int .i64 (st : Int))).setCell ⟨w2.heap.size + 1, 0, none⟩ (.slice none 0 0)) (w2.heap.size + 1) 3 1)
      have HVM5 := Lib.hid (show (Value.slice none 0 0).ownBlock ≠ some (w2.heap.size + 1 + 1) from fun e => by cases e)
      have HN2 := Lib.hid (show nearOf ns f ((pre ++ [(⟨i, hin⟩ : NmI ns.length)]).map (·.1)) = (st, [i]) by rw [HSN.out, if_pos hlt1])
      have M1 := Lib.hid (show 0 + 1 ≤ maxLen by decide)
      have M2 := Lib.hid (show (0 + 1) * 8 ≤ 140737488355328 by decide)
      have M3 := Lib.hid (show w2.heap.size + 1 ≤ (((Wq.setCell ⟨w2.heap.size + 1 + 1, 0, none⟩ (.int .i64 (st : Int))).setCell ⟨w2.heap.size + 1, 0, none⟩ (.slice none 0 0)).alloc (.cells #[.int .i64 i] 3)).heap.size by have := HV5.out.lt; simp at this ⊢; omega)
      have HCN := Lib.hid (show ∀ j u, [Value.int .i64 (i : Nat)][j]? = some u → (((Wq.setCell ⟨w2.heap.size + 1 + 1, 0, none⟩ (.int .i64 (st : Int))).setCell ⟨w2.heap.size + 1, 0, none⟩ (.slice none 0 0)).alloc (.cells #[.int .i64 i] 3)).cell? ((⟨Wq.heap.size, 0, none⟩ : Addr).add j) = some u from fun j u h => by
        have h1 := cells_new ((Wq.setCell ⟨w2.heap.size + 1 + 1, 0, none⟩ (.int .i64 (st : Int))).setCell ⟨w2.heap.size + 1, 0, none⟩ (.slice none 0 0)) #[.int .i64 i] 3 j u h
        rwa [show ((Wq.setCell ⟨w2.heap.size + 1 + 1, 0, none⟩ (.int .i64 (st : Int))).setCell ⟨w2.heap.size + 1, 0, none⟩ (.slice none 0 0)).heap.size = Wq.heap.size by simp] at h1)
      clear hK5 hV5 hM5 hT5 hO5 hB5 hlt1
      gi_wp2_with (gi_at_builtin; go_loud (refine wpListIn_append_own_at _ rfl _ _ 36 rfl (w2.heap.size + 1) 3 i0 (.int .i64 0) 1 8 Tryz.underlying36 hi0 hz0 hz1 hz2 rfl (by decide) (.slice none 0 0) 0 [] rfl (HR5.out.alloc _) ⟨Wq.heap.size, 0, none⟩ 1 1 [.int .i64 i] rfl rfl HCN.out (numsV_one [i]) M1.out M2.out M3.out ?_); intro v' w1 hown' hgrow _ hat; obtain ⟨g', cap', rfl⟩ := ownsRow_succ hown'; have hE := kpE_append (D := W0.heap.size) HV5.out HT5.out HR5.out (Nat.le_of_lt HV5.out.lt) (Nat.le_refl _) (by omega) (by have := HSZ.out; omega) hown' hgrow hat; obtain ⟨hv1, hv2, hr2, hk2, hb2⟩ := HV5.out.appended (by decide) HR5.out (Nat.le_of_lt HV5.out.lt) (Nat.le_refl _) hown' hgrow; have hvm2 := own_new_ne HM5.out HVM5.out hat; have hm2 := box_append HM5.out (by omega) hgrow HVM5.out hv1; have hc1 := hv1.cell; have hf1 := hv1.frozen; have HE := Lib.hid hE; have HV2 := Lib.hid hv2; have HR2 := Lib.hid hr2; have HK2 := Lib.hid hk2; have HB2' := Lib.hid hb2; have HM2 := Lib.hid (hm2 (Value.slice (some ⟨g', 0, none⟩) (0 + 1) cap')); have HVM2 := Lib.hid hvm2; clear hE hv2 hr2 hk2 hb2 hm2 hown' hgrow hat hvm2)
      refine ⟨((keeps_belowN HWQ.out).trans (HO5.out.trans HK2.out)).from _, KpE.t HKQ.out (KpE.t HK5.out HE.out.1), ⟨_, HV2.out, ?_, HVM2.out⟩, ?_, HE.out.2, HB.out.trans (HB5.out.trans HB2'.out)⟩
      · have h9 := HR2.out
        dsimp only
        rw [HN2.out]
        exact h9
      · dsimp only
        rw [HN2.out]
        exact HM2.out
    · have q0 : ¬ (st : Int) < m := by omega
      by_cases heq : st = m
      · have HN2 := Lib.hid (show nearOf ns f ((pre ++ [(⟨i, hin⟩ : NmI ns.length)]).map (·.1)) = (m, zs ++ [i]) by rw [HSN.out, if_neg hlt1, if_pos heq])
        have q2 : ((st : Int) == (m : Int)) = true := by simp; omega
        have M1 := Lib.hid (show zs.length + 1 ≤ maxLen by unfold maxLen; omega)
        have M2 := Lib.hid (show (zs.length + 1) * 8 ≤ 140737488355328 by omega)
        have M3 := Lib.hid (show w2.heap.size + 1 ≤ (Wq.alloc (.cells #[.int .i64 i] 3)).heap.size by have := HBV.out.lt; simp; omega)
        clear hlt1 heq hzl
        gi_wp2_with (gi_at_builtin; go_loud (refine wpListIn_append_own_at _ rfl _ _ 36 rfl (w2.heap.size + 1) 3 i0 (.int .i64 0) 1 8 Tryz.underlying36 hi0 hz0 hz1 hz2 rfl (by decide) _ _ _ rfl (HR.out.alloc _) ⟨Wq.heap.size, 0, none⟩ 1 1 [.int .i64 i] rfl rfl (cells_new _ _ _) (numsV_one [i]) M1.out M2.out M3.out ?_); intro v' w1 hown' hgrow _ hat; obtain ⟨g', cap', rfl⟩ := ownsRow_succ hown'; have hE := kpE_append (D := W0.heap.size) HBV.out HBT.out HR.out (Nat.le_of_lt HBV.out.lt) (Nat.le_refl _) (by omega) (by have := HSZ.out; omega) hown' hgrow hat; obtain ⟨hv1, hv2, hr2, hk2, hb2⟩ := HBV.out.appended (by decide) HR.out (Nat.le_of_lt HBV.out.lt) (Nat.le_refl _) hown' hgrow; have hvm2 := own_new_ne HBM.out HVM.out hat; have hm2 := box_append HBM.out (by omega) hgrow HVM.out hv1; have hc1 := hv1.cell; have hf1 := hv1.frozen; have HE := Lib.hid hE; have HV2 := Lib.hid hv2; have HR2 := Lib.hid hr2; have HK2 := Lib.hid hk2; have HB2' := Lib.hid hb2; have HM2 := Lib.hid (hm2 (Value.slice (some ⟨g', 0, none⟩) (zs.length + 1) cap')); have HVM2 := Lib.hid hvm2; clear hE hv2 hr2 hk2 hb2 hm2 hown' hgrow hat hvm2)
        refine ⟨((keeps_belowN HWQ.out).trans HK2.out).from _, KpE.t HKQ.out HE.out.1, ⟨_, HV2.out, ?_, HVM2.out⟩, ?_, HE.out.2, HB.out.trans HB2'.out⟩
        · have h9 := HR2.out
          dsimp only
          rw [HN2.out]
          simp only [List.length_append, List.length_cons, List.length_nil, numsV_app]
          exact h9
        · dsimp only
          rw [HN2.out]
          exact HM2.out
      · have HN2 := Lib.hid (show nearOf ns f ((pre ++ [(⟨i, hin⟩ : NmI ns.length)]).map (·.1)) = (m, zs) by rw [HSN.out, if_neg hlt1, if_neg heq])
        have q2 : ((st : Int) == (m : Int)) = false := by simp; omega
        clear hlt1 heq hzl
        gi_wp2
        refine ⟨(keeps_belowN HWQ.out).from _, HKQ.out, ⟨v, HBV.out, ?_, HVM.out⟩, ?_, HBT.out, HB.out⟩
        · have h9 := HR.out
          dsimp only
          rw [HN2.out]
          exact h9
        · dsimp only
          rw [HN2.out]
          exact HBM.out
  case done =>
    rintro D ys W hD hys ⟨⟨v, bV1, hr1, _⟩, bM1, bT1, hB1⟩ hK
    have cV := bV1.cell
    dsimp only at hr1
    rw [hys] at hr1
    have HR := Lib.hid hr1
    have HBx := Lib.hid (HBW.out.trans ((HA3.out.trans hB1).mono (show w.heap.size ≤ w2.heap.size + 1 by omega)))
    have HKK := Lib.hid hK
    clear hr1 hB1
    gi_wp2
    refine ⟨by simp, .inl ⟨_, _, rfl, run_takeDeferred HKK.out, ?_⟩⟩
    exact ⟨_, results_tmp rfl _ _ _, v, rfl, World.ownsRow.mono (ownsRow_putObj HR.out _ HKK.out rfl) (show w.heap.size ≤ w2.heap.size + 1 by omega), HBx.out.trans (belowK_b (w := w) (Nat.le_refl _) W D _ _ (by omega) HKK.out rfl rfl)⟩
  case stop =>
    rintro D c pre W _ _ h _
    exact h.elim

set_option maxRecDepth 100000 in
set_option maxHeartbeats 2000000 in
theorem near_pro (ns : List ByteArray) (p : Value) (s : ByteArray) (w : World) (hp : TP w p ns) (hns : ns.length ≤ 1000) (hT : Tabs w) :
    Calls Tryz.prog 17 #[p, .string s] w (NewI (nearN ns s) w) := by
  unfold nearN
  by_cases hpl : (nrm s).2 = 0
  · rw [if_pos hpl]
    exact callsIn_wide.1 (near_yes ns p s w hp hns hT hpl)
  · rw [if_neg hpl]
    have HT := Lib.hid hT
    obtain ⟨er, her⟩ : ∃ er, (nrm s).2 = er := ⟨_, rfl⟩
    obtain ⟨n, hn⟩ : ∃ n, (nrm s).1 = n := ⟨_, rfl⟩
    rw [her] at hpl
    have t1 : (er != 0) = true := by simpa using hpl
    have HER := Lib.hid her
    have HN := Lib.hid hn
    obtain ⟨pa, rfl⟩ := hp.form
    have hb0 : Below w.heap.size w (w.alloc (.cells #[.pointer pa] 24)) := (Below.refl _ w).alloc (Nat.le_refl _) _
    have HB0 := Lib.hid hb0
    have HQ := Lib.hid (norm_pro s _ (HT.out.below hb0 (Nat.le_refl _)))
    clear hp hns hT hpl hb0 her hn
    go_enter Tryz.func17, Tryz.ntmps17
    go_wp2_with fail
    refine HQ.out.mono ?_
    unfold NormIs
    rw [HER.out, HN.out]
    rintro e w1 ⟨rfl, hb1⟩
    have HB1 := Lib.hid (HB0.out.trans (hb1.mono HB0.out.size))
    clear hb1
    go_wp2_with fail
    go_ret
    exact ⟨_, rfl, World.ownsRow_nil _ _ _ _, HB1.out.alloc HB1.out.size _⟩
end Go.Proofs.YtoeknophfcfahaaGreatDoor
