/- The program's Prefix of layer 7. -/
import Derived.Test.YtoeknophfcfahaaGreatDoorNe
import Derived.Lib.QuietBelow
import Derived.Maps.OwnIn
import Derived.Maps.AppendAt
namespace Go.Proofs.YtoeknophfcfahaaGreatDoor
open Go.RowKit Go.Maps Go.Shelf
set_option linter.unusedVariables false

attribute [local go_sem] Oper.semAt_some

theorem each_stops (n : Nat) (hn : 1 ≤ n) (Bt B Bl : Nat) (p : Value) (ns : List ByteArray) (hns : ns.length ≤ 1000) (w0 : World) (hp : TP w0 p ns) (h0B : w0.heap.size ≤ B) (w : World) (hbw : Below B w0 w) (hBw : B ≤ w.heap.size)
    (hBt : w.cell? ⟨Bt, 0, none⟩ = some p) (vl : Value) (hBl : w.cell? ⟨Bl, 0, none⟩ = some vl) (hvl : ∀ c, vl.ownBlock = some c → c < w.heap.size) :
    SeqStopsK Fence.wide n Tryz.prog 80 #[.pointer (some ⟨Bt, 0, none⟩)] (nmA ns) (KpE B Bl Bt w.heap.size) (fun ys => ys.map (·.1) = srt ns) (fun pre => pre.map (·.1) <+: srt ns) ns.length w := fun l J Jx W hW hJ _ hY h0 =>
  each1_in n l Bt B Bl w.heap.size p ns hn hns w0 hp h0B J Jx hY W hJ (hbw.trans (hW.mono hBw)) (Nat.le_trans hBw hW.size) ((hW.cell (p := ⟨Bt, 0, none⟩) (cellIn hBt)).trans hBt) vl ((hW.cell (p := ⟨Bl, 0, none⟩) (cellIn hBl)).trans hBl) (fun c e => Nat.lt_of_lt_of_le (hvl c e) hW.size) hW.size h0

/-- A region that draws its order, in a round of a loop over an iterator, whose calls lay new blocks alone. -/
theorem region_inRound_below {P : Program} {Q : Exit → Act → World → Prop} {l n id : Nat} {l0 : List Oper} {a : Act} {w : World} (hm : P.follows .mixedOrders = true) (hd : (l0.all fun o => match o.op with | .defer _ => false | _ => true) = true)
    (hB : Region.lexB .any l0.toArray = true)
    (h : wpQuiet P l0.toArray (fun w' => ∃ p : Regrown, w' = Sort.grow (redrawn w p.d) p.os) (fun a' => ∀ w', (∃ p : Regrown, w' = Sort.grow (redrawn w p.d) p.os) → Q .normal a' w') l0 a) :
    (Code.region id l0.toArray true).wpIn (Fence.wide.inRound l) n P Q a w := by
  refine region_inRound hm hd ?_
  simp only [Region.lexB, Bool.and_eq_true] at hB
  refine wpAny_of_quiet (C := fun w' => ∃ p : Regrown, w' = Sort.grow (redrawn w p.d) p.os) (Q := fun a' => ∀ w', (∃ p : Regrown, w' = Sort.grow (redrawn w p.d) p.os) → Q .normal a' w') (Q' := Just Q) (fun _ w' hw' h => h w' hw') _ _ _ _ (show ∃ p : Regrown, w.drew = Sort.grow (redrawn w p.d) p.os from ⟨⟨w.drawn + 1, #[]⟩, (Sort.grow_empty _).symm⟩) ?_
  have := wpAnyQ_lex (C := fun w' => ∃ p : Regrown, w' = Sort.grow (redrawn w p.d) p.os) (md := .any) hB.1 l0 0 (Array.replicate l0.toArray.size false) a (by simp) (by simpa using hB.2) (by simpa using h)
  simpa using this

/-- Whether one text begins with another. -/
def beginsB (s p : ByteArray) : Bool := Lib.hasPrefix s.data.toList p.data.toList
def plainB (s : ByteArray) : Bool := ((chars s).find? unplain).isNone
def fltP (ns : List ByteArray) (f : ByteArray) (l : List Nat) : List Nat := l.filter fun i => beginsB (nm (ns.getD i ByteArray.empty)) f
/-- The names that begin so, in their order. -/
def prefixN (ns : List ByteArray) (s : ByteArray) : List Nat := if plainB s then fltP ns (fold s) (srt ns) else []

/-- What a round has kept that appends to the list in a box. -/
theorem kpE_append {B Bl Bt D : Nat} {W w1 : World} {p v v' : Value} {k m : Nat} {xs ys : List Value} {o : Obj} (hv : Boxed W Bl 36 v) (hbt : Boxed W Bt 24 p) (hrow : W.ownsRow B 3 1 v k xs) (hBW : B ≤ W.heap.size) (hBl : B ≤ Bl) (hBt : Bl < Bt) (hD : Bl < D)
    (hown' : w1.ownsRow B 3 1 v' m ys) (hgrow : (W.alloc o).grownBy w1 v.ownBlock) (hat : v'.ownBlock = v.ownBlock ∨ v'.ownBlock = some (W.alloc o).heap.size) :
    KpE B Bl Bt D W (w1.setCell ⟨Bl, 0, none⟩ v') ∧ Boxed (w1.setCell ⟨Bl, 0, none⟩ v') Bt 24 p := by
  obtain ⟨h1, h2, h3, h4, h5⟩ := hv.appended (by decide) hrow hBW hBl hown' hgrow
  have hb2 : Boxed (w1.setCell ⟨Bl, 0, none⟩ v') Bt 24 p := (Below.heap_setCell _ _ _ _ (by show Bt ≠ Bl; omega)).trans ((hbt.alloc o).kept hgrow (hbt.not_row (by decide) hrow))
  refine ⟨⟨h5, fun u hu => ?_, fun u hu => ?_⟩, hb2⟩
  · rw [hbt.cell] at hu
    cases hu
    exact hb2.cell
  · rw [hv.cell] at hu
    cases hu
    refine ⟨v', h2.cell, ?_, fun c cur T fr hDc hc hne => ?_⟩
    · rcases hat with h | h
      · exact .inl h
      · exact .inr fun c hc => by rw [h] at hc; cases hc; simp
    · have hlt := (Array.getElem?_eq_some_iff.1 hc).1
      exact (Below.heap_setCell _ _ _ _ (by show c ≠ Bl; omega)).trans ((hgrow.block c (by simp; omega) (fun e => hne e.symm)).trans ((Below.heap_alloc _ _ _ hlt).trans hc))
/-- What a loop that gathers numbers holds between two rounds. -/
def GatI (B Bt : Nat) (p : Value) (W0 : World) {α : Type} (g : α → List Nat) (pre : α) (W : World) : Prop :=
  (∃ v, Boxed W B 36 v ∧ W.ownsRow B 3 1 v (g pre).length (numsV (g pre)) ∧ True) ∧ Boxed W Bt 24 p ∧ Below B W0 W
theorem Boxed.below {W W' : World} {B : Nat} {t : TypeId} {v : Value} (h : Boxed W B t v) (hb : Below W.heap.size W W') : Boxed W' B t v := (hb.block B h.lt).trans h
theorem GatI.below {B Bt : Nat} {p : Value} {W0 : World} {α : Type} {g : α → List Nat} {pre : α} {W W' : World} (h : GatI B Bt p W0 g pre W) (hb : Below W.heap.size W W') : GatI B Bt p W0 g pre W' := by
  obtain ⟨⟨v, h1, h2, _⟩, h3, h4⟩ := h
  exact ⟨⟨v, Boxed.below h1 hb, own_stays h2 fun c e => hb.block c (own_base h2 e).2, trivial⟩, Boxed.below h3 hb, h4.trans (hb.mono (Nat.le_of_lt h1.lt))⟩

theorem keeps_belowN {W W' : World} (h : Below W.heap.size W W') : KeepsOthers W W' := ⟨h.size, fun k o hk _ => (h.block k (Array.getElem?_eq_some_iff.1 hk).1).trans hk⟩
theorem GatI.own {B Bt : Nat} {p : Value} {W0 : World} {α : Type} {g : α → List Nat} {D : Nat} (hBD : B ≤ D) (hs : B ≤ W0.heap.size) : OwnFrom D (GatI B Bt p W0 g) :=
  OwnFrom.and (Own.from (holdsRow_own B B 36 3 1 (fun s => (g s).length) (fun s => numsV (g s)) (fun _ _ => True)) _) (OwnFrom.and (Own.from (boxed_own Bt 24 (fun _ => p)) _) (ownFrom_below hs hBD))
theorem fltP_snoc (ns : List ByteArray) (f : ByteArray) (l : List Nat) (i : Nat) : fltP ns f (l ++ [i]) = if beginsB (nm (ns.getD i ByteArray.empty)) f then fltP ns f l ++ [i] else fltP ns f l := by
  unfold fltP
  rw [List.filter_append]
  simp only [List.filter_cons, List.filter_nil]
  by_cases h : beginsB (nm (ns.getD i ByteArray.empty)) f = true
  · rw [if_pos h, if_pos h]
  · rw [if_neg h, if_neg h, List.append_nil]
theorem fltP_len (ns : List ByteArray) (f : ByteArray) (l : List Nat) : (fltP ns f l).length ≤ l.length := List.length_filter_le _ _

set_option maxRecDepth 100000 in
set_option maxHeartbeats 8000000 in
theorem prefix_yes (ns : List ByteArray) (p : Value) (s : ByteArray) (w : World) (hp : TP w p ns) (hns : ns.length ≤ 1000) (hs : s.size ≤ 16777216) (hT : Tabs w) (hpl : plainB s = true) :
    CallsIn Fence.wide 12 Tryz.prog 15 #[p, .string s] w (NewI (fltP ns (fold s) (srt ns)) w) := by
  have hf0 : Fence.wide.fn 38 := trivial
  have hf1 : Fence.wide.fn 80 := trivial
  have hf2 : Fence.wide.fn 36 := trivial
  have hf3 : Fence.wide.fn 37 := trivial
  have HP := Lib.hid hp
  have HNS := Lib.hid hns
  have HS := Lib.hid hs
  have HT := Lib.hid hT
  have HPL := Lib.hid hpl
  obtain ⟨pl, hplc⟩ : ∃ pl, placeOf ((chars s).find? unplain) = pl := ⟨_, rfl⟩
  have HPC := Lib.hid hplc
  obtain ⟨pa, rfl⟩ := hp.form
  obtain ⟨f, hf⟩ : ∃ f, fold s = f := ⟨_, rfl⟩
  rw [hf]
  have HF := Lib.hid hf
  clear hp hns hs hT hpl hf hplc
  refine callsIn_of_wp_marks Tryz.func15 rfl trivial ?_ rfl
  simp only [Tryz.ntmps15, List.size_toArray, List.length_cons, List.length_nil, Nat.reduceAdd, Nat.reduceSub, Array.replicate_succ, Array.replicate_zero, List.push_toArray, List.append_toArray, List.nil_append, List.cons_append]
  have hb0 : Below w.heap.size w (w.alloc (.cells #[.pointer pa] 24)) := (Below.refl _ w).alloc (Nat.le_refl _) _
  have HB0 := Lib.hid hb0
  have HX0 := Lib.hid (Boxed.new w 24 (.pointer pa))
  have HQ := Lib.hid (plain_pro s _ HS.out (HT.out.below hb0 (Nat.le_refl _)))
  clear hb0
  gi_wp2_with (gi_at_call 36; refine (callsIn_wide.2 HQ.out).mono ?_; rintro e w1 ⟨he, hb1⟩; rw [show ((chars s).find? unplain).isNone = true from HPL.out, HPC.out] at he; subst he; have HB1 := Lib.hid (HB0.out.trans (hb1.mono HB0.out.size)); have HX1 := Lib.hid (Boxed.below HX0.out hb1); clear hb1)
  have hT1 := HT.out.below HB1.out (Nat.le_refl _)
  refine (callsIn_wide.2 (fold_pro s _ HS.out hT1)).mono ?_
  rw [HF.out]
  rintro e w2 ⟨rfl, hb2⟩
  have HB2 := Lib.hid (HB1.out.trans (hb2.mono HB1.out.size))
  have HX2 := Lib.hid (Boxed.below HX1.out hb2)
  clear hb2 hT1
  have hX3 := (HX2.out.alloc (.cells #[.string f] 9)).alloc (.cells #[.slice none 0 0] 36)
  have c0 := hX3.cell
  have HX3 := Lib.hid hX3
  clear hX3
  gi_wp2_with fail
  refine (each_in 11 _ _ ⟨_, rfl⟩).mono ?_
  rintro e w3 ⟨rfl, rfl⟩
  gi_wp2_with fail
  have bF := ((Boxed.new w2 9 (.string f)).alloc (.cells #[.slice none 0 0] 36)).alloc (.cells #[.pointer pa] 24)
  have bL := (Boxed.new (w2.alloc (.cells #[.string f] 9)) 36 (.slice none 0 0)).alloc (.cells #[.pointer pa] 24)
  have bT := Boxed.new ((w2.alloc (.cells #[.string f] 9)).alloc (.cells #[.slice none 0 0] 36)) 24 (.pointer pa)
  have bP := HX3.out.alloc (.cells #[.pointer pa] 24)
  have hA1 : Below w2.heap.size w2 (w2.alloc (.cells #[.string f] 9)) := (Below.refl _ w2).alloc (Nat.le_refl _) _
  have hA3 : Below (w2.heap.size + 1) (w2.alloc (.cells #[.string f] 9)) (((w2.alloc (.cells #[.string f] 9)).alloc (.cells #[.slice none 0 0] 36)).alloc (.cells #[.pointer pa] 24)) := ((Below.refl _ _).alloc (by simp) _).alloc (by simp) _
  have hTP := (HP.out.below HB2.out).below hA1
  have hsz : (((w2.alloc (.cells #[.string f] 9)).alloc (.cells #[.slice none 0 0] 36)).alloc (.cells #[.pointer pa] 24)).heap.size = w2.heap.size + 3 := by simp
  simp only [World.size_alloc] at bL bT
  have hw1 : (w2.alloc (.cells #[.string f] 9)).heap.size = w2.heap.size + 1 := by simp
  obtain ⟨w9, hw9⟩ : ∃ w9, w2.alloc (.cells #[.string f] 9) = w9 := ⟨_, rfl⟩
  rw [hw9] at bF bL bT bP hA3 hTP hsz hw1 hA1 ⊢
  obtain ⟨W0, hW0⟩ : ∃ W0, (w9.alloc (.cells #[.slice none 0 0] 36)).alloc (.cells #[.pointer pa] 24) = W0 := ⟨_, rfl⟩
  rw [hW0] at bF bL bT bP hA3 hsz ⊢
  have HBW := Lib.hid (HB2.out.trans (hA1.mono HB2.out.size))
  have hW2 := HB2.out.size
  clear hW0 hw9 c0 HX3 hA1
  have HTP := Lib.hid hTP
  have HA3 := Lib.hid hA3
  have HNL := Lib.hid (srt_len ns)
  obtain ⟨i0, hi0, hz0, hz1, hz2⟩ := info_parts infoI
  refine wpIn_rangeFunc_ownH rfl (by omega) (gf := 80) (lb := #[.pointer (some ⟨w2.heap.size + 1 + 1, 0, none⟩)]) rfl trivial (enters_of Tryz.func80 (by kernel_rfl) rfl)
    (each_stops (12 - 1) (by omega) (w2.heap.size + 1 + 1) (w2.heap.size + 1) (w2.heap.size + 1) (.pointer pa) ns HNS.out w9 hTP (by omega) W0 hA3 (by omega) bT.cell _ bL.cell (fun c e => by cases e)) KpE.t (fun W l o o' hl h hc hw => KpE.put W l o o' (by omega) h hc hw) (Below.refl _ _) (fun _ => rfl)
    (GatI (w2.heap.size + 1) (w2.heap.size + 1 + 1) (.pointer pa) W0 (fun pre : List (NmI ns.length) => fltP ns f (pre.map (·.1))))
    (fun _ _ _ => False)
    (GatI.own (by omega) (by omega))
    (fun _ _ _ _ _ hs _ _ => hs)
    ⟨⟨_, bL, World.ownsRow_nil _ _ _ _, trivial⟩, bT, Below.refl _ _⟩
    (fun x a' W => a' = { tmps := #[.pointer pa, .string s, .pointer (some ⟨w.heap.size, 0, none⟩), undef, .slice none 0 0, .int .i64 pl, .bool true, .pointer (some ⟨w2.heap.size, 0, none⟩), .pointer (some ⟨w2.heap.size + 1, 0, none⟩), .int .i64 (x.1 : Nat), .tuple #[.int .i64 pl, .bool true], .string s, .tuple #[.int .i64 pl, .bool true], .int .i64 pl, .bool true, .bool true, .bool false, .string s, .string f, .pointer pa, .func (.func 80) #[] #[.pointer (some ⟨w2.heap.size + 1 + 1, 0, none⟩)], .int .i64 (x.1 : Nat), .string (ns.getD x.1 ByteArray.empty), undef, undef, undef, undef, undef, undef, undef, undef, undef, undef, undef, undef, undef, undef], defers := [] })
    (fun x a' _ X Y row hs hg hr => hs)
    ?assign ?body ?done ?stop
  case assign =>
    rintro l' pre x W K hI hK
    simp only [nmA]
    gi_wp2
    exact hK _ _ ((KeepsOthers.refl _).from _) (KpE.refl _ _ _ _ _) hI rfl
  case body =>
    have HSZ := Lib.hid hsz
    rintro l' pre x a' W hl ⟨r, hr⟩ hI rfl hlt
    obtain ⟨i, hin⟩ := x
    have hBW := hI.2.2
    have d0 := (hBW.cell (p := ⟨w.heap.size, 0, none⟩) (by show w.heap.size < _; omega)).trans bP.cell
    have d1 := (hBW.cell (p := ⟨w2.heap.size, 0, none⟩) (by show w2.heap.size < _; omega)).trans bF.cell
    have hbr : Below (w2.heap.size + 1) w9 W := HA3.out.trans hBW
    rcases HTP.out.below (hbr.mono (by omega)) with ⟨_, hnil⟩ | ⟨b, nv, gv, mv, sv, e, hT⟩
    · rw [hnil] at hin; simp at hin
    cases e
    have hgl : (ns.map nm).length = ns.length := by simp
    obtain ⟨pg, cap, rfl, _, _⟩ := hT.gg.form
    obtain ⟨nb, no, rfl, hnc⟩ := hT.gg.cell (j := i) (by rw [hgl]; exact hin)
    have c1 := hT.c1
    obtain ⟨n1, hn1⟩ : ∃ n1, nm (ns.getD i ByteArray.empty) = n1 := ⟨_, rfl⟩
    have HN1 := Lib.hid hn1
    rw [show (ns.map nm)[i]'(by rw [hgl]; exact hin) = n1 by rw [← hn1, getD_get hin]; simp] at hnc
    have k0 := cell_regrown d0
    have k1 := cell_regrown d1
    have k2 := cell_regrown c1
    have k3 := cell_regrown hnc
    obtain ⟨t, ht⟩ : ∃ t, beginsB n1 f = t := ⟨_, rfl⟩
    have HTT := Lib.hid ht
    have cQ : ∀ d os, Calls Tryz.prog 39 #[.string n1, .string f] (Sort.grow (redrawn W d) os) fun e w'' => e = .returned (.bool t) ∧ ∃ p : Regrown, w'' = Sort.grow (redrawn W p.d) p.os :=
      fun d os => Calls.regrown_of ((Tryz.strings_HasPrefix n1 f _).mono fun _ _ ⟨h1, h2⟩ => ⟨by rw [h1, ← HTT.out]; rfl, by rw [h2]; exact Below.refl _ _⟩)
    have hix : (i : Int) < (ns.map nm).length := by omega
    have HI := Lib.hid hI
    have HIN := Lib.hid hin
    have HLT := Lib.hid hlt
    obtain ⟨nl, hnl⟩ : ∃ nl, (ns.map nm).length = nl := ⟨_, rfl⟩
    rw [hnl] at hix k2
    clear hI hBW hbr hT d0 d1 c1 hnc ht hgl hn1 hnl hlt hsz
    gi_wp2
    refine region_inRound_below (by kernel_rfl) (by kernel_rfl) (by kernel_rfl) ?_
    repeat (quiet_step (first | exact cQ _ _))
    refine wpQuiet_nil ?_
    intro _ hw'
    obtain ⟨⟨dq, osq⟩, hw''⟩ := hw'
    subst hw''
    clear k0 k1 k2 k3 cQ
    have hWq := below_regrown W dq osq
    obtain ⟨Wq, hWe⟩ : ∃ Wq, Sort.grow (redrawn W dq) osq = Wq := ⟨_, rfl⟩
    rw [hWe] at hWq ⊢
    have HWQ := Lib.hid hWq
    have HIQ := Lib.hid (HI.out.below hWq)
    clear hWe hWq
    cases t with
    | false =>
      gi_wp2
      refine ⟨(keeps_belowN HWQ.out).from _, KpE.of_below HWQ.out (by have := HI.out.2.2.size; have := HSZ.out; omega), ?_⟩
      have h9 := HIQ.out
      unfold GatI at h9 ⊢
      simp only [List.map_append, List.map_cons, List.map_nil, fltP_snoc, HN1.out, HTT.out, Bool.false_eq_true, if_false]
      exact h9
    | true =>
      obtain ⟨⟨v, bV1, hr1, _⟩, bT1, hB1⟩ := HIQ.out
      have cV := bV1.cell
      have fV := bV1.frozen
      have hpl := fltP_len ns f (pre.map (·.1))
      rw [List.length_map] at hpl
      have B1 : (fltP ns f (pre.map (·.1))).length + 1 ≤ maxLen := by have := HNS.out; have := HLT.out; unfold maxLen; omega
      have B2 : ((fltP ns f (pre.map (·.1))).length + 1) * 8 ≤ 140737488355328 := by have := HNS.out; have := HLT.out; omega
      have B3 : w2.heap.size + 1 ≤ (Wq.alloc (.cells #[.int .i64 i] 3)).heap.size := by have := bV1.lt; simp; omega
      have M1 := Lib.hid B1
      have M2 := Lib.hid B2
      have M3 := Lib.hid B3
      have HR := Lib.hid hr1
      have HB := Lib.hid hB1
      have HBV := Lib.hid bV1
      have HBT := Lib.hid bT1
      clear B1 B2 B3 hr1 hB1 hpl bV1 bT1
      gi_wp2_with (gi_at_builtin; go_loud (refine wpListIn_append_own_at _ rfl _ _ 36 rfl (w2.heap.size + 1) 3 i0 (.int .i64 0) 1 8 Tryz.underlying36 hi0 hz0 hz1 hz2 rfl (by decide) _ _ _ rfl (HR.out.alloc _) ⟨Wq.heap.size, 0, none⟩ 1 1 [.int .i64 i] rfl rfl (cells_new _ _ _) (numsV_one [i]) M1.out M2.out M3.out ?_); intro v' w1 hown' hgrow _ hat; obtain ⟨g', cap', rfl⟩ := ownsRow_succ hown'; have hE := kpE_append (D := W0.heap.size) HBV.out HBT.out HR.out (by have := M3.out; simp at this; have := HBV.out.lt; omega) (Nat.le_refl _) (by omega) (by have := HSZ.out; omega) hown' hgrow hat; obtain ⟨hv1, hv2, hr2, hk2, hb2⟩ := HBV.out.appended (by decide) HR.out (by have := HBV.out.lt; omega) (Nat.le_refl _) hown' hgrow; have hc1 := hv1.cell; have hf1 := hv1.frozen; have HE := Lib.hid hE; have HV2 := Lib.hid hv2; have HR2 := Lib.hid hr2; have HK2 := Lib.hid hk2; have HB2' := Lib.hid hb2; clear hE hv2 hr2 hk2 hb2 hown' hgrow hat)
      refine ⟨((keeps_belowN HWQ.out).trans HK2.out).from _, KpE.t (KpE.of_below HWQ.out (by have := HI.out.2.2.size; have := HSZ.out; omega)) HE.out.1, ⟨_, HV2.out, ?_, trivial⟩, HE.out.2, HB.out.trans HB2'.out⟩
      have h9 := HR2.out
      simp only [List.map_append, List.map_cons, List.map_nil, fltP_snoc, HN1.out, HTT.out, if_true, List.length_append, List.length_cons, List.length_nil, numsV_app]
      exact h9
  case done =>
    rintro D ys W hD hys ⟨⟨v, bV1, hr1, _⟩, bT1, hB1⟩ hK
    have cV := bV1.cell
    dsimp only at hr1
    rw [hys] at hr1
    have HR := Lib.hid hr1
    have HBx := Lib.hid (HBW.out.trans ((HA3.out.trans hB1).mono (show w.heap.size ≤ w2.heap.size + 1 by omega)))
    have HKK := Lib.hid hK
    clear hr1 hB1
    gi_wp2
    refine ⟨by simp, .inl ⟨_, _, rfl, run_takeDeferred HKK.out, ?_⟩⟩
    exact ⟨_, results_tmp rfl _ _ _, v, rfl, World.ownsRow.mono (ownsRow_putObj HR.out _ HKK.out rfl) (show w.heap.size ≤ w2.heap.size + 1 by omega), HBx.out.trans (belowK_b (w := w) (Nat.le_refl _) W D _ _ (by omega) HKK.out rfl rfl)⟩
  case stop =>
    rintro D c pre W _ _ h _
    exact h.elim

set_option maxRecDepth 100000 in
set_option maxHeartbeats 2000000 in
theorem prefix_pro (ns : List ByteArray) (p : Value) (s : ByteArray) (w : World) (hp : TP w p ns) (hns : ns.length ≤ 1000) (hs : s.size ≤ 16777216) (hT : Tabs w) :
    Calls Tryz.prog 15 #[p, .string s] w (NewI (prefixN ns s) w) := by
  unfold prefixN
  cases hpl : plainB s with
  | true =>
    rw [if_pos rfl]
    exact callsIn_wide.1 (prefix_yes ns p s w hp hns hs hT hpl)
  | false =>
    rw [if_neg (by simp)]
    have HS := Lib.hid hs
    have HT := Lib.hid hT
    have HPL := Lib.hid hpl
    obtain ⟨pa, rfl⟩ := hp.form
    have hb0 : Below w.heap.size w (w.alloc (.cells #[.pointer pa] 24)) := (Below.refl _ w).alloc (Nat.le_refl _) _
    have HB0 := Lib.hid hb0
    have HQ := Lib.hid (plain_pro s _ HS.out (HT.out.below hb0 (Nat.le_refl _)))
    clear hp hns hs hT hpl hb0
    go_enter Tryz.func15, Tryz.ntmps15
    go_wp2_with fail
    refine HQ.out.mono ?_
    rintro e w1 ⟨he, hb1⟩
    rw [show ((chars s).find? unplain).isNone = false from HPL.out] at he
    subst he
    have HB1 := Lib.hid (HB0.out.trans (hb1.mono HB0.out.size))
    clear hb1
    go_wp2_with fail
    go_ret
    exact ⟨_, rfl, World.ownsRow_nil _ _ _ _, HB1.out⟩
end Go.Proofs.YtoeknophfcfahaaGreatDoor
