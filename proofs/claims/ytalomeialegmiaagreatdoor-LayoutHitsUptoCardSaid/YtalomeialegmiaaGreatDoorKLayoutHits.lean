/- What is proved: LayoutHits holds of all lines, layouts and places (the statement's second form). Its condition: what comes in is of bulk at most 1048576. -/
import Derived.Test.YtalomeialegmiaaGreatDoorKLayoutHits8
import Derived.Test.YtalomeialegmiaaGreatDoorKLayoutHits11
import Derived.Test.YtalomeialegmiaaGreatDoorKLayoutHits22
import Derived.Test.YtalomeialegmiaaGreatDoorCards
import Derived.Test.YtalomeialegmiaaGreatDoorTie
namespace Go.Proofs.YtalomeialegmiaaGreatDoor.layoutHits
open Go.ChangeShapes Go.WideShapes Go.ChangeAt Go.RowKit Go.Maps
open Go.Proofs.YtalomeialegmiaaGreatDoor.Tb hiding own laid_met laidWorld
open Go.Proofs.YtalomeialegmiaaGreatDoor.Ly (tabs_of laid_met own Tabs2 Tabs2.below)
open Go.ChangeMaps (open_string shut_string)
set_option linter.unusedVariables false
set_option linter.unusedSimpArgs false
section
variable {H : Type} {enc : TypeId × Value → H} {W : World}
def LnD (d : DataW H) (ls : List (List Gl)) : Prop := (∀ l ∈ ls, OkW l) ∧ glB ls ≤ Rows.uptoBulk d ∧ ls.length ≤ Rows.uptoBulk d
theorem lns_read {v : Value} {d : DataW H} {p : List MemPlace} (h : DataW.Trod enc Tryz.prog W 0 (fun _ => true) true 25 v d p) (hv : ∃ pa len cap, v = .slice pa len cap) : ∃ ls : List (List Gl), RdL (fun _ => True) W v ls ∧ LnD d ls := by
  obtain ⟨pa, len, cap, rfl⟩ := hv
  obtain ⟨n, hn⟩ := h
  obtain ⟨ls, h1, h2, h3, h4⟩ := lines_read hn
  exact ⟨ls, h1, h2, h3, h4⟩
theorem lns_bulk {d : DataW H} {ls : List (List Gl)} {n : Nat} (h : LnD d ls) (hb : Rows.uptoBulk d ≤ n) : (∀ l ∈ ls, OkW l) ∧ glB ls ≤ n := ⟨h.1, Nat.le_trans h.2.1 hb⟩
def HtD (d : DataW H) (l : List (Int × Int)) : Prop := ∀ c ∈ l, In64 c.1 ∧ In64 c.2
theorem hts_read {v : Value} {d : DataW H} {p : List MemPlace} (h : DataW.Trod enc Tryz.prog W 0 (fun _ => true) true 42 v d p) (hv : ∃ pa len cap, v = .slice pa len cap) : ∃ l : List (Int × Int), RdC (fun _ => True) W v l ∧ HtD d l := hits_read h hv
theorem hts_bulk {d : DataW H} {l : List (Int × Int)} {n : Nat} (h : HtD d l) (hb : Rows.uptoBulk d ≤ n) : ∀ c ∈ l, In64 c.1 ∧ In64 c.2 := h
theorem lad_bulk {d : DataW H} {o : Ld} {n : Nat} (h : glB o.lines ≤ Rows.uptoBulk d ∧ o.lines.length ≤ Rows.uptoBulk d) (hb : Rows.uptoBulk d ≤ n) : glB o.lines ≤ n ∧ o.lines.length ≤ n := ⟨Nat.le_trans h.1 hb, Nat.le_trans h.2 hb⟩
end
theorem walk (v : Value) (ls : List (List Gl)) (vl vr vk : Value) (d : Ld) (ul ur uk : Value) (o : Ld) (vh : Value) (hs : List (Int × Int)) (W : World) (hT : Tabs2 W)
    (hL : RdL (fun _ => True) W v ls) (hLs : (∀ l ∈ ls, OkW l) ∧ glB ls ≤ 1048576) (hD : LdIs (fun _ => True) W vl vr vk d) (hDs : glB d.lines ≤ 1048576 ∧ d.lines.length ≤ 1048576)
    (hO : LdIs (fun _ => True) W ul ur uk o) (hOs : glB o.lines ≤ 1048576 ∧ o.lines.length ≤ 1048576) (hH : RdC (fun _ => True) W vh hs) (hHs : ∀ c ∈ hs, In64 c.1 ∧ In64 c.2) :
    Calls Tryz.prog 4 #[v, laidV vl vr vk d.more, laidV ul ur uk o.more, vh] W fun e W' => e = .returned (.bool true) ∧ Below W.heap.size W W' :=
  hits_walk (fun w w' h hb => Tabs2.below h hb) (fun w h => awake_law w h.u h.p) v ls vl vr vk d ul ur uk o vh hs W hT hL hLs.1 hLs.2 hD hDs.1 hDs.2 hO hH hHs

set_option maxRecDepth 100000 in
theorem contract (H : Type) (enc : TypeId × Value → H) (W : World) (base : Nat) (args : Array Value) (ds gs : List (DataW H)) (before : List MemPlace)
    (hval : ∀ (j : Nat) t v, Tryz.f4.params[j]? = some t → args[j]? = some v → Value.okWide Tryz.prog W .any base t v)
    (hW : DataW.Whole enc Tryz.prog Tryz.f4.params.toList Rows.layoutHitsSpec.vars false W args.toList ds gs before) (hk : Rows.uptoSmall H (ds ++ gs) = true) (hT : Tabs2 W) :
    Calls Tryz.prog 4 args W fun e W' => ∃ v, e = .returned v ∧ Rows.layoutHitsSpec.post enc Tryz.prog Tryz.f4 false true false false W args v W' := by
  have hW' := hW
  obtain ⟨p, q, hA0, hV, rfl, hfz, hnd⟩ := hW
  have hA : DataW.TrodAll enc Tryz.prog W 0 (fun _ => true) true Tryz.f4.params.toList args.toList ds p := hA0
  rw [Tryz.params4] at hA hval
  obtain ⟨v0, vs0, d0, ds0, p0, q0, hargs, rfl, rfl, h0, r0⟩ := trodAll_cons hA
  obtain ⟨v1, vs1, d1, ds1, p1, q1, rfl, rfl, rfl, h1, r1⟩ := trodAll_cons r0
  obtain ⟨v2, vs2, d2, ds2, p2, q2, rfl, rfl, rfl, h2, r2⟩ := trodAll_cons r1
  obtain ⟨v3, vs3, d3, ds3, p3, q3, rfl, rfl, rfl, h3, r3⟩ := trodAll_cons r2
  obtain ⟨rfl, rfl, rfl⟩ := trodAll_nil r3
  obtain rfl : args = #[v0, v1, v2, v3] := by cases args; simp_all
  obtain ⟨rfl, rfl⟩ := trodVars_none hV
  have hk0 := h0
  obtain ⟨l0, hR0, hD0⟩ := lns_read h0 (okWide_slice Tryz.underlying25 (hval 0 25 v0 rfl rfl))
  have hk1 := h1
  obtain ⟨vl1, vr1, vk1, o1, rfl, hR1, hD1⟩ := laid_read h1 (hval 1 29 v1 rfl rfl)
  have hk2 := h2
  obtain ⟨vl2, vr2, vk2, o2, rfl, hR2, hD2⟩ := laid_read h2 (hval 2 29 v2 rfl rfl)
  have hk3 := h3
  obtain ⟨l3, hR3, hD3⟩ := hts_read h3 (okWide_slice Tryz.underlying42 (hval 3 42 v3 rfl rfl))
  clear hA0
  simp only [List.append_nil] at hk
  have hb0 := of_decide_eq_true hk
  simp only [Rows.uptoBulkAll] at hb0
  have size0 := lns_bulk hD0 (n := 1048576) (by omega)
  have size1 := lad_bulk hD1 (n := 1048576) (by omega)
  have size2 := lad_bulk hD2 (n := 1048576) (by omega)
  have size3 := hts_bulk hD3 (n := 1048576) (by omega)
  refine (walk v0 l0 vl1 vr1 vk1 o1 vl2 vr2 vk2 o2 v3 l3 W hT hR0 size0 hR1 size1 hR2 size2 hR3 size3).mono fun e W' ⟨he, hg⟩ => ?_
  subst he
  have hlt := hW'.lt
  exact ⟨_, rfl, post_of_below (pa := (p0 ++ (p1 ++ (p2 ++ (p3 ++ []))))) (pv := []) hW' (fun _ _ _ => trodAll_cons_mk (shut_bool Tryz.underlying4 _) trodAll_mk0) (fun sp hsp => (trodAll_cons_mk (Go.WideElems.Trod_stays (by kernel_rfl) (by kernel_rfl) (of_decide_eq_true (by kernel_rfl)) hk0 (fun p hp => hg.same (hlt p (by simp [hp]))) (fun p hp => hsp p (by simp [hp]))) (trodAll_cons_mk (Go.WideElems.Trod_stays (by kernel_rfl) (by kernel_rfl) (of_decide_eq_true (by kernel_rfl)) hk1 (fun p hp => hg.same (hlt p (by simp [hp]))) (fun p hp => hsp p (by simp [hp]))) (trodAll_cons_mk (Go.WideElems.Trod_stays (by kernel_rfl) (by kernel_rfl) (of_decide_eq_true (by kernel_rfl)) hk2 (fun p hp => hg.same (hlt p (by simp [hp]))) (fun p hp => hsp p (by simp [hp]))) (trodAll_cons_mk (Go.WideElems.Trod_stays (by kernel_rfl) (by kernel_rfl) (of_decide_eq_true (by kernel_rfl)) hk3 (fun p hp => hg.same (hlt p (by simp [hp]))) (fun p hp => hsp p (by simp [hp]))) trodAll_mk0))))) (fun _ _ => rfl) rfl hg (ok_one (by kernel_rfl) rfl (okWide_bool_mk Tryz.underlying4 _))⟩

theorem witness_row (os : Os) {H : Type} (enc : TypeId × Value → H) :
    (Rows.OpenSpec.upto Rows.layoutHitsSpec).preRow enc Tryz.prog Tryz.f4 Rows.layoutHitsUptoRow.domain false Rows.layoutHitsUptoRow.laid ((Ly.laidWorld os).forCall (fun _ _ => 0) ⟨#[], #[.slice none 0 0, .agg #[.slice none 0 0, .slice none 0 0, .slice none 0 0, .bool false], .agg #[.slice none 0 0, .slice none 0 0, .slice none 0 0, .bool false], .slice none 0 0], []⟩).memory #[.slice none 0 0, .agg #[.slice none 0 0, .slice none 0 0, .slice none 0 0, .bool false], .agg #[.slice none 0 0, .slice none 0 0, .slice none 0 0, .bool false], .slice none 0 0] := by
  have hw : (DataW.whole enc Tryz.prog ((Ly.laidWorld os).forCall (fun _ _ => 0) ⟨#[], #[.slice none 0 0, .agg #[.slice none 0 0, .slice none 0 0, .slice none 0 0, .bool false], .agg #[.slice none 0 0, .slice none 0 0, .slice none 0 0, .bool false], .slice none 0 0], []⟩).memory Tryz.f4.params.toList Rows.layoutHitsSpec.vars false (#[.slice none 0 0, .agg #[.slice none 0 0, .slice none 0 0, .slice none 0 0, .bool false], .agg #[.slice none 0 0, .slice none 0 0, .slice none 0 0, .bool false], .slice none 0 0] : Array Value).toList 8).map (fun x => (x.1, x.2.1)) =
      some ([.nil, .agg [.nil, .nil, .nil, .lit (.bool false)], .agg [.nil, .nil, .nil, .lit (.bool false)], .nil], []) := by kernel_rfl
  obtain ⟨⟨x1, x2, x3⟩, hx, hx1⟩ := Option.map_eq_some_iff.1 hw
  simp only [Prod.mk.injEq] at hx1
  obtain ⟨rfl, rfl⟩ := hx1
  exact OpenSpec.preRow_of_cond 8 hx (by kernel_rfl) (fun k hk => by cases hk; kernel_rfl) (by kernel_rfl) (laid_met os _)

set_option maxRecDepth 100000 in
theorem lifted (os : Os) (started : os.Started) (H : Type) (enc : TypeId × Value → H) (F : Stop.Interp) :
    ReturnsInHanded {} Tryz.checked os 4 .any ((Rows.OpenSpec.upto Rows.layoutHitsSpec).preRow enc Tryz.prog Tryz.f4 Rows.layoutHitsUptoRow.domain false Rows.layoutHitsUptoRow.laid) (((Rows.OpenSpec.upto Rows.layoutHitsSpec).at F).post enc Tryz.prog Tryz.f4 false true false false) := by
  refine returnsInHanded_of_row (C := Tryz.checked) (s := (Rows.OpenSpec.upto Rows.layoutHitsSpec)) own started (by kernel_rfl) Tryz.func4
    (witness_row_at (enc := enc) (C := Tryz.checked) false (Ly.laidWorld os) #[.slice none 0 0, .agg #[.slice none 0 0, .slice none 0 0, .slice none 0 0, .bool false], .agg #[.slice none 0 0, .slice none 0 0, .slice none 0 0, .bool false], .slice none 0 0] rfl (by kernel_rfl) (by kernel_rfl) (by kernel_rfl) (witness_row os enc)) ?_
  intro W base args ds gs before hval hW _ hcond hsz hL hS _
  exact contract H enc W base args ds gs before hval hW (hcond _ rfl) (tabs_of hL hS)

set_option maxHeartbeats 16000000 in
theorem closed : joinedFacts Tryz.pinned.checked.prog 4 Tryz.f4 ((Rows.OpenSpec.upto Rows.layoutHitsSpec)).bare Rows.layoutHitsUptoRow = true := by
  unfold joinedFacts
  repeat' (with_reducible refine Bool.and_eq_true_iff.2 ⟨?_, ?_⟩)
  all_goals (as_aux_lemma => kernel_rfl)
theorem named : Tryz.pinned.checked.prog.funcNamed Rows.layoutHitsUptoRow.func = some 4 := by kernel_rfl
theorem inst : (Tryz.f4).isInstance Tryz.pinned.checked.prog Rows.layoutHitsUptoRow.origin Rows.layoutHitsUptoRow.targs := of_decide_eq_true (by kernel_rfl)
theorem wrap : (Tryz.f4).isWrapper Tryz.pinned.checked.prog Rows.layoutHitsUptoRow.wrapper Rows.layoutHitsUptoRow.mainSum := by
  unfold Func.isWrapper
  first | (rw [if_pos (by decide +kernel)]; kernel_rfl) | (rw [if_neg (by decide +kernel)]; exact ⟨rfl, rfl⟩)
theorem row : Rows.LayoutHitsUptoSaid :=
  OpenClaim.holds_of_cond 4 Tryz.f4 rfl rfl rfl rfl rfl rfl rfl ⟨rfl, rfl, rfl, rfl, rfl⟩ rfl rfl rfl rfl rfl named Tryz.func4 closed inst wrap
    (fun os started H enc _ F => by rw [OpenClaim.pre_eq_preRow]; exact lifted os started H enc F)

theorem plain (f : FuncId) (fn : Func) (hf : Tryz.pinned.checked.prog.funcNamed Rows.layoutHitsUptoRow.func = some f) (hfn : Tryz.pinned.checked.prog.funcs[f]? = some fn) :
    false = Tryz.pinned.checked.prog.looks [] ∧ ∀ (j : Nat) t, fn.params[j]? = some t → Tryz.pinned.checked.prog.wantsStandIn t = false := by
  obtain rfl : f = 4 := Option.some.inj ((show Tryz.prog.funcNamed Rows.layoutHitsUptoRow.func = some 4 by kernel_rfl).symm.trans hf) |>.symm
  obtain rfl : fn = Tryz.f4 := (Option.some.inj (Tryz.func4.symm.trans hfn)).symm
  refine ⟨by kernel_rfl, fun j t ht => ?_⟩
  rw [Tryz.params4] at ht
  have hm : t ∈ [25, 29, 29, 42] := by simpa using Array.mem_of_getElem? ht
  simp only [List.mem_cons, List.mem_nil_iff, or_false] at hm
  rcases hm with rfl | rfl | rfl | rfl
  · exact (show Tryz.prog.wantsStandIn 25 = false by kernel_rfl)
  · exact (show Tryz.prog.wantsStandIn 29 = false by kernel_rfl)
  · exact (show Tryz.prog.wantsStandIn 29 = false by kernel_rfl)
  · exact (show Tryz.prog.wantsStandIn 42 = false by kernel_rfl)

theorem proved : Rows.LayoutHitsUptoCardSaid :=
  Claim7.holds_tied_plain_at .later [] _ _ _ _ row (fun _ h => by cases h) (by kernel_rfl) (fun _ h => by cases h) layoutHitsUpto_row_tie rfl ⟨rfl, rfl⟩ (by kernel_rfl) rfl plain (by kernel_rfl)
end Go.Proofs.YtalomeialegmiaaGreatDoor.layoutHits
