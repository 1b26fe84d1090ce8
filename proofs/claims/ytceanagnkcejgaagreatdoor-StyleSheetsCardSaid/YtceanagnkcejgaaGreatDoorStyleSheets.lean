/- What is proved: StyleSheets holds of any sheet and any name: the program's Base, Check and Find say what the document's do; the base is made anew each time. No condition but the form's own. -/
import Derived.Test.YtceanagnkcejgaaGreatDoorSaw
import Derived.Test.YtceanagnkcejgaaGreatDoorDb
import Derived.Test.YtceanagnkcejgaaGreatDoorDd
import Derived.Test.YtceanagnkcejgaaGreatDoorArg
import Derived.Test.YtceanagnkcejgaaGreatDoorPost
import Derived.Test.YtceanagnkcejgaaGreatDoorSLftz
import Derived.Test.YtceanagnkcejgaaGreatDoorCards
import Derived.Test.YtceanagnkcejgaaGreatDoorTie
import Derived.ProofKit
import Derived.OpenShut
import Derived.Deep.DeepHandedRow
import Derived.WideKeyArgs
namespace Go.Proofs.YtceanagnkcejgaaGreatDoor.styleSheets
open Go.ChangeShapes Go.WideShapes Go.ChangeAt Go.RowKit
open Go.ChangeMaps (open_string shut_string)
set_option linter.unusedVariables false

/-- Block g is a base's row, from the k-th style on as it was made. -/
def BRow (g k : Nat) (w : World) : Prop := ∃ cur : Array Value, w.heap[g]? = some (.cells cur 29 (0, 0)) ∧ 30 ≤ cur.size ∧ ∀ j, k * 5 ≤ j → j < 30 → cur[j]? = (styRows baseL)[j]?
theorem BRow.made {w0 w : World} {base : Nat} {v : Value} (h : w.ownsRow base 29 5 v 6 (styRows baseL)) : ∃ g cap, v = .slice (some ⟨g, 0, none⟩) 6 cap ∧ 6 ≤ cap ∧ cap ≤ maxLen ∧ base ≤ g ∧ g < w.heap.size ∧ BRow g 0 w := by
  rcases h.2 with ⟨_, h0⟩ | ⟨g, cap, cur, rfl, hb, hg, h1, h2, h3, h4⟩
  · cases h0
  · refine ⟨g, cap, rfl, h1, h2, hb, (Array.getElem?_eq_some_iff.1 hg).1, cur, hg, by omega, fun j _ hj => ?_⟩
    rw [← h4, List.getElem?_take_of_lt (by omega), Array.getElem?_toList]
theorem BRow.below {g k : Nat} {w w' : World} (h : BRow g k w) (hb : Below w.heap.size w w') : BRow g k w' := by
  obtain ⟨cur, h1, h2⟩ := h
  exact ⟨cur, (hb.block g (Array.getElem?_eq_some_iff.1 h1).1).trans h1, h2⟩
theorem BRow.other {g g' k i : Nat} {w : World} {u : Value} (h : BRow g k w) (hne : g ≠ g') : BRow g k (w.setCell ⟨g', i, none⟩ u) := by
  obtain ⟨cur, h1, h2⟩ := h
  exact ⟨cur, (Below.heap_setCell w ⟨g', i, none⟩ u g hne).trans h1, h2⟩
theorem BRow.set {g k : Nat} {w : World} (h : BRow g k w) (u : Value) : BRow g (k + 1) (w.setCell ⟨g, k * 5, none⟩ u) := by
  obtain ⟨cur, h1, h2, h3⟩ := h
  refine ⟨_, heap_setCell_same w g (k * 5) _ _ u h1, by simpa using h2, fun j hj hj2 => ?_⟩
  rw [Array.getElem?_setIfInBounds_ne (by omega)]
  exact h3 j (by omega) hj2
theorem BRow.free {g k : Nat} {w : World} (h : BRow g k w) (i : Nat) : w.frozen? ⟨g, i, none⟩ = false := by
  obtain ⟨cur, h1, _⟩ := h
  exact frozen_of_row w g i _ _ h1
theorem BRow.cells {g k i : Nat} {w : World} (h : BRow g k w) (hk : k ≤ i) (hi : i < 6) :
    w.cell? ⟨g, i * 5, none⟩ = some (.string (bs (gets baseL i).nm)) ∧ w.cell? ⟨g, i * 5 + 1, none⟩ = some (.string (bs (gets baseL i).pr)) ∧
    w.cell? ⟨g, i * 5 + 2, none⟩ = some (.int .i64 (gets baseL i).ch.on) ∧ w.cell? ⟨g, i * 5 + 3, none⟩ = some (.int .i64 (gets baseL i).ch.off) ∧ w.cell? ⟨g, i * 5 + 4, none⟩ = some (.int .i64 (gets baseL i).ch.col) := by
  obtain ⟨cur, h1, _, h3⟩ := h
  have hi' : i < baseL.length := hi
  rw [gets_eq hi']
  have go : ∀ q u, (styRow baseL[i])[q]? = some u → w.cell? ⟨g, i * 5 + q, none⟩ = some u := fun q u hq => by
    have hq5 : q < 5 := by have := (List.getElem?_eq_some_iff.1 hq).1; simpa [styRow] using this
    rw [cell_of_row _ _ _ _ _ _ h1, h3 _ (by omega) (by omega)]
    exact styRows_get baseL i hi' q u hq
  exact ⟨go 0 _ rfl, go 1 _ rfl, go 2 _ rfl, go 3 _ rfl, go 4 _ rfl⟩

set_option maxRecDepth 100000 in
set_option maxHeartbeats 8000000 in
theorem walk (v : Value) (l : List Sty) (s0 : ByteArray) (W : World) (hs : Sh W v l ∧ Fit l) (hsz : l.length * 56 ≤ 140737488351232) {PM : Prop} (hm : PM) (hT : Tabs W) :
    Calls Tryz.prog 3 #[v, .string s0] W fun e W' => e = .returned (.bool true) ∧ Below W.heap.size W W' := by
  obtain ⟨x, rfl⟩ : ∃ x, s0 = bs x := ⟨s0.data.toList, (bs_data s0).symm⟩
  have HT := Lib.hid hT
  have HS := Lib.hid hs.1
  have HF := Lib.hid hs.2
  have HZ := Lib.hid hsz
  clear hs hsz hm hT
  go_enter Tryz.func3, Tryz.ntmps3
  go_wp2_with fail
  refine (base_pro W).mono ?_
  rintro e w1 ⟨vb, rfl, ho1, hb1⟩
  obtain ⟨gb, cb, rfl, cb1, cb2, hgb0, hgb, hrow⟩ := BRow.made (w0 := W) ho1
  have HB1 := Lib.hid hb1
  have HR1 := Lib.hid hrow
  have HG := Lib.hid (And.intro hgb0 hgb)
  unfold maxLen at cb2
  clear ho1 hb1 hrow hgb hgb0
  go_wp2_with fail
  refine (base_ref w1).mono ?_
  rintro e w2 ⟨vc, rfl, ho2, hb2⟩
  obtain ⟨gc, cc, rfl, cc1, cc2, hgc0, hgc, hrow2⟩ := BRow.made (w0 := W) ho2
  have HB2 := Lib.hid (HB1.out.trans (hb2.mono HB1.out.size))
  have HR2 := Lib.hid (HR1.out.below hb2)
  have HC2 := Lib.hid hrow2
  have HNE := Lib.hid (show gc ≠ gb by have := HG.out.2; omega)
  unfold maxLen at cc2
  clear ho2 hb2 hrow2 hgc hgc0
  go_wp2_with fail
  refine (awake_law w2 (HT.out.at HB2.out)).mono ?_
  rintro e w3 ⟨rfl, hb⟩
  have HB3 := Lib.hid (HB2.out.trans (hb.mono HB2.out.size))
  have HR3 := Lib.hid (HR2.out.below hb)
  have HC3 := Lib.hid (HC2.out.below hb)
  clear hb
  go_wp2_with fail
  go_loopw [7] (fun i wr => ∃ k : Nat, k ≤ 6 ∧ i = .int .i64 k ∧ BRow gb k wr ∧ BRow gc 0 wr ∧ Below W.heap.size W wr) (fun i _ => 6 - (intOf i).toNat)
  case atStart => exact ⟨0, Nat.zero_le _, rfl, HR3.out, HC3.out, HB3.out⟩
  case round =>
    obtain ⟨k, hk, rfl, hbr, hcr, hbw⟩ := hrel
    have HBR := Lib.hid hbr
    have HCR := Lib.hid hcr
    have HB := Lib.hid hbw
    clear hbr hcr hbw
    by_cases hlt : k < 6
    · obtain ⟨x0, x1, x2, x3, x4⟩ := HBR.out.cells (Nat.le_refl _) hlt
      obtain ⟨y0, y1, y2, y3, y4⟩ := HCR.out.cells (Nat.zero_le _) hlt
      obtain ⟨s, hsd⟩ : ∃ s, gets baseL k = s := ⟨_, rfl⟩
      rw [hsd] at x0 x1 x2 x3 x4 y0 y1 y2 y3 y4
      have hlt2 : (k : Int) < 6 := by omega
      clear hsd
      go_wp2_with fail
      refine wp_region_still_tail 8 (by kernel_rfl) (by kernel_rfl) ?_
      simp only [List.take_succ_cons, List.take_zero, List.drop_succ_cons, List.drop_zero]
      change wpStill Tryz.prog _ (World.drew _) _ _ _
      repeat still_step
      refine wpStill_nil ?_
      change wpList _ _ _ _ _ (World.drew _)
      go_wp2_with fail
      refine (styles_law s _).mono ?_
      rintro e w4 ⟨rfl, hb⟩
      have hb' := ((Below.refl wr.heap.size wr).drew).trans hb
      have HB4 := Lib.hid (HB.out.trans (hb'.mono HB.out.size))
      have HBR4 := Lib.hid (HBR.out.below hb')
      have HCR4 := Lib.hid (HCR.out.below hb')
      have z0 := HBR4.out.free (k * 5)
      have c0 := (hb'.cell (p := ⟨gb, k * 5, none⟩) (World.block_lt_of_cell? wr _ x0)).trans x0
      clear hb hb' x0 x1 x2 x3 x4 y0 y1 y2 y3 y4
      go_wp2_with fail
      have HB5 := Lib.hid (HB4.out.setCell (p := ⟨gb, k * 5, none⟩) HG.out.1 (.string ⟨#[120]⟩))
      have HBR5 := Lib.hid (HBR4.out.set (.string ⟨#[120]⟩))
      have HCR5 := Lib.hid (HCR4.out.other (g' := gb) (i := k * 5) (u := .string ⟨#[120]⟩) HNE.out)
      go_roundw
      case rel => exact ⟨k + 1, by omega, by go_num, HBR5.out, HCR5.out, HB5.out⟩
      case measure => simp [intOf]; omega
    · have hge : ¬ (k : Int) < 6 := by omega
      have HSR := Lib.hid (HS.out.below HB.out)
      obtain ⟨wo, hwo⟩ : ∃ wo : World, wo = wr := ⟨_, rfl⟩
      subst hwo
      have HTW := Lib.hid (twin_law l v _ HSR.out (Nat.le_trans HZ.out (by decide)))
      go_wp2_with fail
      refine HTW.out.mono ?_
      rintro e w4 ⟨v4, rfl, ho4, hb⟩
      have hs4 := Sh.own ho4
      have HCK := Lib.hid (check_pro' l v4 w4 hs4 HF.out)
      have HB4 := Lib.hid (HB.out.trans (hb.mono HB.out.size))
      obtain ⟨⟨p, q⟩, hpq⟩ : ∃ c, checkM l = c := ⟨_, rfl⟩
      have HPQ := Lib.hid hpq
      rw [hpq] at HCK
      unfold ckV at HCK
      clear ho4 hb hs4 hpq
      go_wp2_with fail
      refine HCK.out.mono ?_
      rintro e w5 ⟨rfl, hb⟩
      have HB5 := Lib.hid (HB4.out.trans (hb.mono HB4.out.size))
      have HCR := Lib.hid (check_ref l v w5 (HS.out.below HB5.out) HF.out)
      rw [HPQ.out] at HCR
      unfold ckV at HCR
      clear hb
      go_wp2_with fail
      refine HCR.out.mono ?_
      rintro e w6 ⟨rfl, hb⟩
      have HB6 := Lib.hid (HB5.out.trans (hb.mono HB5.out.size))
      have tp : ((p : Int) != p) = false := by simp
      have tq : ((q : Int) != q) = false := by simp
      clear hb
      go_wp2_with fail
      refine (base_pro w6).mono ?_
      rintro e w7 ⟨v7, rfl, ho7, hb⟩
      obtain ⟨p7, c7, rfl⟩ := lenOf ho7
      have HB7 := Lib.hid (HB6.out.trans (hb.mono HB6.out.size))
      have hl6 : baseL.length = 6 := rfl
      rw [hl6]
      clear ho7 hb hl6
      go_wp2_with fail
      refine (base_pro w7).mono ?_
      rintro e w8 ⟨v8, rfl, ho8, hb⟩
      obtain ⟨g8, c8, rfl, c81, c82, _, _, hrow8⟩ := BRow.made (w0 := W) ho8
      have HB8 := Lib.hid (HB7.out.trans (hb.mono HB7.out.size))
      obtain ⟨y0, _, _, _, _⟩ := hrow8.cells (i := 0) (Nat.le_refl _) (by omega)
      have y0' : w8.cell? ⟨g8, 0, none⟩ = some (.string ⟨#[98]⟩) := y0
      unfold maxLen at c82
      clear ho8 hb hrow8 y0
      go_wp2_with fail
      have HTW2 := Lib.hid (twin_law l v w8 (HS.out.below HB8.out) (Nat.le_trans HZ.out (by decide)))
      refine HTW2.out.mono ?_
      rintro e w9 ⟨v9, rfl, ho9, hb⟩
      have hs9 := Sh.own ho9
      have HFI := Lib.hid (find_pro l x v9 w9 hs9)
      have HB9 := Lib.hid (HB8.out.trans (hb.mono HB8.out.size))
      obtain ⟨o, ho⟩ : ∃ o, fnd l x = o := ⟨_, rfl⟩
      have HO := Lib.hid ho
      rw [ho] at HFI
      unfold fndV at HFI
      clear ho9 hb hs9 ho y0'
      go_wp2_with fail
      refine HFI.out.mono ?_
      rintro e w10 ⟨rfl, rfl⟩
      have HFR := Lib.hid (find_ref l x v w9 (HS.out.below HB9.out))
      rw [HO.out] at HFR
      unfold fndV at HFR
      go_wp2_with fail
      refine HFR.out.mono ?_
      rintro e w10 ⟨rfl, rfl⟩
      have ta : (((o.getD 0 : Nat) : Int) == (o.getD 0 : Nat)) = true := by simp
      have tb : (o.isSome == o.isSome) = true := by simp
      go_wp2_with fail
      go_ret
      exact ⟨rfl, HB9.out⟩

set_option maxRecDepth 100000 in
theorem contract (H : Type) (enc : TypeId × Value → H) (W : World) (base : Nat) (args : Array Value) (ds gs : List (DataW H)) (before : List MemPlace)
    (hval : ∀ (j : Nat) t v, Tryz.f3.params[j]? = some t → args[j]? = some v → Value.okWide Tryz.prog W .any base t v)
    (hW : DataW.Whole enc Tryz.prog Tryz.f3.params.toList Rows.styleSheetsSpec.vars false W args.toList ds gs before) (hsz0 : (DataW.weightsEach Tryz.prog (Tryz.f3.params.toList ++ Rows.styleSheetsSpec.plain.varTypes Tryz.prog) (ds ++ gs)).all (· ≤ reachBytes) = true) (hT : Tabs W) :
    Calls Tryz.prog 3 args W fun e W' => ∃ v, e = .returned v ∧ Rows.styleSheetsSpec.post enc Tryz.prog Tryz.f3 false true false false W args v W' := by
  have hW' := hW
  obtain ⟨p, q, hA0, hV, rfl, hfz, hnd⟩ := hW
  have hA : DataW.TrodAll enc Tryz.prog W 0 (fun _ => true) true Tryz.f3.params.toList args.toList ds p := hA0
  rw [Tryz.params3] at hA hval
  have hsz := hsz0
  rw [Tryz.params3] at hsz
  clear hsz0
  obtain ⟨v0, vs0, d0, ds0, p0, q0, hargs, rfl, rfl, h0, r0⟩ := trodAll_cons hA
  obtain ⟨v1, vs1, d1, ds1, p1, q1, rfl, rfl, rfl, h1, r1⟩ := trodAll_cons r0
  obtain ⟨rfl, rfl, rfl⟩ := trodAll_nil r1
  obtain rfl : args = #[v0, v1] := by cases args; simp_all
  obtain ⟨rfl, rfl⟩ := trodVars_none hV
  have hk0 := h0
  obtain ⟨l0, hR0, hD0⟩ := sheet_read h0 (okWide_slice Tryz.underlying22 (hval 0 22 v0 rfl rfl))
  obtain ⟨s1, rfl, rfl, rfl, hm1⟩ := open_string Tryz.underlying9 (hval 1 9 v1 rfl rfl) h1
  clear hA0
  have size0 := sheet_reach hsz (j := 0) rfl rfl hD0
  refine (walk v0 l0 s1 W hR0 size0 hm1 hT).mono fun e W' ⟨he, hg⟩ => ?_
  subst he
  have hlt := hW'.lt
  exact ⟨_, rfl, post_of_below (pa := (p0 ++ ([] ++ []))) (pv := []) hW' (fun _ _ _ => trodAll_cons_mk (shut_bool Tryz.underlying4 _) trodAll_mk0) (fun sp hsp => (trodAll_cons_mk (Go.WideElems.Trod_stays (by kernel_rfl) (by kernel_rfl) (of_decide_eq_true (by kernel_rfl)) hk0 (fun p hp => hg.same (hlt p (by simp [hp]))) (fun p hp => hsp p (by simp [hp]))) (trodAll_cons_mk (shut_string Tryz.underlying9 hm1) trodAll_mk0))) (fun _ _ => rfl) rfl hg (ok_one (by kernel_rfl) rfl (okWide_bool_mk Tryz.underlying4 _))⟩

theorem witness_row (os : Os) {H : Type} (enc : TypeId × Value → H) :
    (OpenSpec.ofChange Rows.styleSheetsSpec).preRow enc Tryz.prog Tryz.f3 Rows.styleSheetsRow.domain false Rows.styleSheetsRow.laid ((laidWorld os).forCall (fun _ _ => 0) ⟨#[], #[.slice none 0 0, .string .empty], []⟩).memory #[.slice none 0 0, .string .empty] := by
  have hw : (DataW.whole enc Tryz.prog ((laidWorld os).forCall (fun _ _ => 0) ⟨#[], #[.slice none 0 0, .string .empty], []⟩).memory Tryz.f3.params.toList Rows.styleSheetsSpec.vars false (#[.slice none 0 0, .string .empty] : Array Value).toList 8).map (fun x => (x.1, x.2.1)) =
      some ([.nil, .lit (.string [])], []) := by kernel_rfl
  obtain ⟨⟨x1, x2, x3⟩, hx, hx1⟩ := Option.map_eq_some_iff.1 hw
  simp only [Prod.mk.injEq] at hx1
  obtain ⟨rfl, rfl⟩ := hx1
  exact OpenSpec.preRow_of_cond 8 hx (by kernel_rfl) (fun k hk => by cases hk) (by kernel_rfl) (laid_met os _)

set_option maxRecDepth 100000 in
theorem lifted (os : Os) (started : os.Started) (H : Type) (enc : TypeId × Value → H) (F : Stop.Interp) :
    ReturnsInHanded {} Tryz.checked os 3 .any ((OpenSpec.ofChange Rows.styleSheetsSpec).preRow enc Tryz.prog Tryz.f3 Rows.styleSheetsRow.domain false Rows.styleSheetsRow.laid) (((OpenSpec.ofChange Rows.styleSheetsSpec).at F).post enc Tryz.prog Tryz.f3 false true false false) := by
  refine returnsInHanded_of_row (C := Tryz.checked) (s := (OpenSpec.ofChange Rows.styleSheetsSpec)) own started (by kernel_rfl) Tryz.func3
    (witness_row_at (enc := enc) (C := Tryz.checked) false (laidWorld os) #[.slice none 0 0, .string .empty] rfl (by kernel_rfl) (by kernel_rfl) (by kernel_rfl) (witness_row os enc)) ?_
  intro W base args ds gs before hval hW _ hcond hsz hL hS _
  exact contract H enc W base args ds gs before hval hW hsz (tabs_of hL hS)

set_option maxHeartbeats 16000000 in
theorem closed : joinedFacts Tryz.pinned.checked.prog 3 Tryz.f3 ((OpenSpec.ofChange Rows.styleSheetsSpec)).bare Rows.styleSheetsRow = true := by
  unfold joinedFacts
  repeat' (with_reducible refine Bool.and_eq_true_iff.2 ⟨?_, ?_⟩)
  all_goals (as_aux_lemma => kernel_rfl)
theorem named : Tryz.pinned.checked.prog.funcNamed Rows.styleSheetsRow.func = some 3 := by kernel_rfl
theorem inst : (Tryz.f3).isInstance Tryz.pinned.checked.prog Rows.styleSheetsRow.origin Rows.styleSheetsRow.targs := of_decide_eq_true (by kernel_rfl)
theorem wrap : (Tryz.f3).isWrapper Tryz.pinned.checked.prog Rows.styleSheetsRow.wrapper Rows.styleSheetsRow.mainSum := by
  unfold Func.isWrapper
  first | (rw [if_pos (by decide +kernel)]; kernel_rfl) | (rw [if_neg (by decide +kernel)]; exact ⟨rfl, rfl⟩)
theorem row : Rows.StyleSheetsSaid :=
  OpenClaim.holds_of_cond 3 Tryz.f3 rfl rfl rfl rfl rfl rfl rfl ⟨rfl, rfl, rfl, rfl, rfl⟩ rfl rfl rfl rfl rfl named Tryz.func3 closed inst wrap
    (fun os started H enc _ F => by rw [OpenClaim.pre_eq_preRow]; exact lifted os started H enc F)

theorem plain (f : FuncId) (fn : Func) (hf : Tryz.pinned.checked.prog.funcNamed Rows.styleSheetsRow.func = some f) (hfn : Tryz.pinned.checked.prog.funcs[f]? = some fn) :
    true = Tryz.pinned.checked.prog.looks [] ∧ ∀ (j : Nat) t, fn.params[j]? = some t → Tryz.pinned.checked.prog.wantsStandIn t = false := by
  obtain rfl : f = 3 := Option.some.inj ((show Tryz.prog.funcNamed Rows.styleSheetsRow.func = some 3 by kernel_rfl).symm.trans hf) |>.symm
  obtain rfl : fn = Tryz.f3 := (Option.some.inj (Tryz.func3.symm.trans hfn)).symm
  refine ⟨by kernel_rfl, fun j t ht => ?_⟩
  rw [Tryz.params3] at ht
  have hm : t ∈ [22, 9] := by simpa using Array.mem_of_getElem? ht
  simp only [List.mem_cons, List.mem_nil_iff, or_false] at hm
  rcases hm with rfl | rfl
  · exact (show Tryz.prog.wantsStandIn 22 = false by kernel_rfl)
  · exact (show Tryz.prog.wantsStandIn 9 = false by kernel_rfl)

theorem proved : Rows.StyleSheetsCardSaid :=
  Claim7.holds_tied_plain_at .later [] _ _ _ _ row (fun _ h => by cases h) (by kernel_rfl) (fun _ h => by cases h) styleSheets_row_tie rfl ⟨rfl, rfl⟩ (by kernel_rfl) rfl plain (by kernel_rfl)
end Go.Proofs.YtceanagnkcejgaaGreatDoor.styleSheets
