/- What is proved: StyleTexts holds of any text and any style: the program's Parse and Write say what the document's do. No condition but the form's own. -/
import Derived.Test.YtceanagnkcejgaaGreatDoorSaw
import Derived.Test.YtceanagnkcejgaaGreatDoorDp
import Derived.Test.YtceanagnkcejgaaGreatDoorArg
import Derived.Test.YtceanagnkcejgaaGreatDoorPost
import Derived.Test.YtceanagnkcejgaaGreatDoorSLftz
import Derived.Test.YtceanagnkcejgaaGreatDoorCards
import Derived.Test.YtceanagnkcejgaaGreatDoorTie
import Derived.ProofKit
import Derived.OpenShut
import Derived.Deep.DeepHandedRow
import Derived.WideKeyArgs
namespace Go.Proofs.YtceanagnkcejgaaGreatDoor.styleTexts
open Go.ChangeShapes Go.WideShapes Go.ChangeAt Go.RowKit
open Go.ChangeMaps (open_string shut_string)
set_option linter.unusedVariables false

set_option maxRecDepth 100000 in
set_option maxHeartbeats 8000000 in
theorem walk (s0 : ByteArray) (c : Sty) (W : World) (hm : s0.size ≤ 9223372036854775807) (hc : FitS c) (hT : Tabs W) :
    Calls Tryz.prog 5 #[.string s0, styVal c] W fun e W' => e = .returned (.bool true) ∧ Below W.heap.size W W' := by
  obtain ⟨t, rfl⟩ : ∃ t, s0 = bs t := ⟨s0.data.toList, (bs_data s0).symm⟩
  rw [bs_len] at hm
  have HL := Lib.hid hm
  have HT := Lib.hid hT
  have HF := Lib.hid hc
  have HA0 := Lib.hid ((Below.refl _ W).alloc (Nat.le_refl _) (.cells (styCells c) 29))
  have HX0 := Lib.hid (show SBox (W.alloc (.cells (styCells c) 29)) W.heap.size c from heap_alloc_new W _)
  have HP := Lib.hid (Parse_pro t _ (HT.out.at HA0.out) HL.out)
  obtain ⟨⟨p, n⟩, hpm⟩ : ∃ c, parseM t = c := ⟨_, rfl⟩
  have HPM := Lib.hid hpm
  rw [hpm] at HP
  unfold pzV styVal at HP
  unfold styCells at HA0 HX0 HP
  have tn : ((n : Int) != n) = false := by simp
  clear hm hc hT hpm
  unfold styVal
  go_enter Tryz.func5, Tryz.ntmps5
  go_wp2_with fail
  refine HP.out.mono ?_
  rintro e w1 ⟨rfl, hb⟩
  have HB1 := Lib.hid (HA0.out.trans (hb.mono HA0.out.size))
  have HX1 := Lib.hid (HX0.out.keep hb)
  have HA1 := Lib.hid (HB1.out.alloc HB1.out.size (.cells (styCells p) 29))
  have HY1 := Lib.hid (show SBox (w1.alloc (.cells (styCells p) 29)) w1.heap.size p from heap_alloc_new w1 _)
  have HX2 := Lib.hid (HX1.out.under ((Below.refl w1.heap.size w1).alloc (Nat.le_refl _) (.cells (styCells p) 29)) HX1.out.lt)
  have HR := Lib.hid (Parse_ref t _ (HT.out.at HA1.out) HL.out)
  rw [HPM.out] at HR
  unfold pzV styVal at HR
  unfold styCells at HA1 HY1 HX2 HR
  clear hb
  go_wp2_with fail
  refine HR.out.mono ?_
  rintro e w2 ⟨rfl, hb⟩
  have HB2 := Lib.hid (HA1.out.trans (hb.mono HA1.out.size))
  have HX3 := Lib.hid (HX2.out.keep hb)
  have hy := HY1.out.keep hb
  obtain ⟨y0, y1, y2, y3, y4⟩ := hy.get
  have ylt := hy.lt
  have HQ2 := Lib.hid ((Below.refl w2.heap.size w2).alloc (Nat.le_refl _) (.cells (styCells p) 29))
  have HA2 := Lib.hid (HB2.out.trans (HQ2.out.mono HB2.out.size))
  have HX4 := Lib.hid (HX3.out.under HQ2.out HX3.out.lt)
  unfold styCells at HQ2 HA2 HX4
  clear hb hy
  go_wp2_with fail
  refine (styles_law p _).mono ?_
  rintro e w3 ⟨rfl, hb⟩
  have HB3 := Lib.hid (HA2.out.trans (hb.mono HA2.out.size))
  have HX5 := Lib.hid (HX4.out.keep hb)
  clear hb y0 y1 y2 y3 y4 ylt
  go_wp2_with fail
  refine (awake_law w3 (HT.out.at HB3.out)).mono ?_
  rintro e w4 ⟨rfl, hb⟩
  have HB4 := Lib.hid (HB3.out.trans (hb.mono HB3.out.size))
  have hx6 := HX5.out.keep hb
  have HX6 := Lib.hid hx6
  obtain ⟨x0, x1, x2, x3, x4⟩ := hx6.get
  have HW := Lib.hid (Write_pro c w4 HF.out (HT.out.at HB4.out))
  obtain ⟨⟨wt, wn⟩, hwm⟩ : ∃ r, writeM c = r := ⟨_, rfl⟩
  have HWM := Lib.hid hwm
  rw [hwm] at HW
  unfold wrV styVal at HW
  have tw : ((wn : Int) == wn) = true := by simp
  have tt : (wt == wt) = true := by simp
  have tl := bs_toList wt
  clear hb hx6 hwm
  go_wp2_with fail
  refine HW.out.mono ?_
  rintro e w5 ⟨rfl, hb⟩
  have HB5 := Lib.hid (HB4.out.trans (hb.mono HB4.out.size))
  have hx7 := HX6.out.keep hb
  have HR2 := Lib.hid (Write_ref c w5 HF.out (HT.out.at HB5.out))
  rw [HWM.out] at HR2
  unfold wrV styVal at HR2
  clear x0 x1 x2 x3 x4 hb
  obtain ⟨x0, x1, x2, x3, x4⟩ := hx7.get
  clear hx7
  go_wp2_with fail
  refine HR2.out.mono ?_
  rintro e w6 ⟨rfl, hb⟩
  have HB6 := Lib.hid (HB5.out.trans (hb.mono HB5.out.size))
  clear hb x0 x1 x2 x3 x4
  go_wp2_with fail
  go_ret
  exact ⟨rfl, HB6.out⟩

set_option maxRecDepth 100000 in
theorem contract (H : Type) (enc : TypeId × Value → H) (W : World) (base : Nat) (args : Array Value) (ds gs : List (DataW H)) (before : List MemPlace)
    (hval : ∀ (j : Nat) t v, Tryz.f5.params[j]? = some t → args[j]? = some v → Value.okWide Tryz.prog W .any base t v)
    (hW : DataW.Whole enc Tryz.prog Tryz.f5.params.toList Rows.styleTextsSpec.vars false W args.toList ds gs before) (hsz0 : (DataW.weightsEach Tryz.prog (Tryz.f5.params.toList ++ Rows.styleTextsSpec.plain.varTypes Tryz.prog) (ds ++ gs)).all (· ≤ reachBytes) = true) (hT : Tabs W) :
    Calls Tryz.prog 5 args W fun e W' => ∃ v, e = .returned v ∧ Rows.styleTextsSpec.post enc Tryz.prog Tryz.f5 false true false false W args v W' := by
  have hW' := hW
  obtain ⟨p, q, hA0, hV, rfl, hfz, hnd⟩ := hW
  have hA : DataW.TrodAll enc Tryz.prog W 0 (fun _ => true) true Tryz.f5.params.toList args.toList ds p := hA0
  rw [Tryz.params5] at hA hval
  have hsz := hsz0
  rw [Tryz.params5] at hsz
  clear hsz0
  obtain ⟨v0, vs0, d0, ds0, p0, q0, hargs, rfl, rfl, h0, r0⟩ := trodAll_cons hA
  obtain ⟨v1, vs1, d1, ds1, p1, q1, rfl, rfl, rfl, h1, r1⟩ := trodAll_cons r0
  obtain ⟨rfl, rfl, rfl⟩ := trodAll_nil r1
  obtain rfl : args = #[v0, v1] := by cases args; simp_all
  obtain ⟨rfl, rfl⟩ := trodVars_none hV
  obtain ⟨s0, rfl, rfl, rfl, hm0⟩ := open_string Tryz.underlying9 (hval 0 9 v0 rfl rfl) h0
  have hk1 := h1
  obtain ⟨c1, rfl, hc1⟩ := sty_read h1 (hval 1 29 v1 rfl rfl)
  clear hA0
  refine (walk s0 c1 W hm0 hc1 hT).mono fun e W' ⟨he, hg⟩ => ?_
  subst he
  have hlt := hW'.lt
  exact ⟨_, rfl, post_of_below (pa := ([] ++ (p1 ++ []))) (pv := []) hW' (fun _ _ _ => trodAll_cons_mk (shut_bool Tryz.underlying4 _) trodAll_mk0) (fun sp hsp => (trodAll_cons_mk (shut_string Tryz.underlying9 hm0) (trodAll_cons_mk (Go.WideElems.Trod_stays (by kernel_rfl) (by kernel_rfl) (of_decide_eq_true (by kernel_rfl)) hk1 (fun p hp => hg.same (hlt p (by simp [hp]))) (fun p hp => hsp p (by simp [hp]))) trodAll_mk0))) (fun _ _ => rfl) rfl hg (ok_one (by kernel_rfl) rfl (okWide_bool_mk Tryz.underlying4 _))⟩

theorem witness_row (os : Os) {H : Type} (enc : TypeId × Value → H) :
    (OpenSpec.ofChange Rows.styleTextsSpec).preRow enc Tryz.prog Tryz.f5 Rows.styleTextsRow.domain false Rows.styleTextsRow.laid ((laidWorld os).forCall (fun _ _ => 0) ⟨#[], #[.string .empty, .agg #[.string .empty, .string .empty, .int .i64 0, .int .i64 0, .int .i64 0]], []⟩).memory #[.string .empty, .agg #[.string .empty, .string .empty, .int .i64 0, .int .i64 0, .int .i64 0]] := by
  have hw : (DataW.whole enc Tryz.prog ((laidWorld os).forCall (fun _ _ => 0) ⟨#[], #[.string .empty, .agg #[.string .empty, .string .empty, .int .i64 0, .int .i64 0, .int .i64 0]], []⟩).memory Tryz.f5.params.toList Rows.styleTextsSpec.vars false (#[.string .empty, .agg #[.string .empty, .string .empty, .int .i64 0, .int .i64 0, .int .i64 0]] : Array Value).toList 8).map (fun x => (x.1, x.2.1)) =
      some ([.lit (.string []), .agg [.lit (.string []), .lit (.string []), .agg [.lit (.int .i64 0), .lit (.int .i64 0), .lit (.int .i64 0)]]], []) := by kernel_rfl
  obtain ⟨⟨x1, x2, x3⟩, hx, hx1⟩ := Option.map_eq_some_iff.1 hw
  simp only [Prod.mk.injEq] at hx1
  obtain ⟨rfl, rfl⟩ := hx1
  exact OpenSpec.preRow_of_cond 8 hx (by kernel_rfl) (fun k hk => by cases hk) (by kernel_rfl) (laid_met os _)

set_option maxRecDepth 100000 in
theorem lifted (os : Os) (started : os.Started) (H : Type) (enc : TypeId × Value → H) (F : Stop.Interp) :
    ReturnsInHanded {} Tryz.checked os 5 .any ((OpenSpec.ofChange Rows.styleTextsSpec).preRow enc Tryz.prog Tryz.f5 Rows.styleTextsRow.domain false Rows.styleTextsRow.laid) (((OpenSpec.ofChange Rows.styleTextsSpec).at F).post enc Tryz.prog Tryz.f5 false true false false) := by
  refine returnsInHanded_of_row (C := Tryz.checked) (s := (OpenSpec.ofChange Rows.styleTextsSpec)) own started (by kernel_rfl) Tryz.func5
    (witness_row_at (enc := enc) (C := Tryz.checked) false (laidWorld os) #[.string .empty, .agg #[.string .empty, .string .empty, .int .i64 0, .int .i64 0, .int .i64 0]] rfl (by kernel_rfl) (by kernel_rfl) (by kernel_rfl) (witness_row os enc)) ?_
  intro W base args ds gs before hval hW _ hcond hsz hL hS _
  exact contract H enc W base args ds gs before hval hW hsz (tabs_of hL hS)

set_option maxHeartbeats 16000000 in
theorem closed : joinedFacts Tryz.pinned.checked.prog 5 Tryz.f5 ((OpenSpec.ofChange Rows.styleTextsSpec)).bare Rows.styleTextsRow = true := by
  unfold joinedFacts
  repeat' (with_reducible refine Bool.and_eq_true_iff.2 ⟨?_, ?_⟩)
  all_goals (as_aux_lemma => kernel_rfl)
theorem named : Tryz.pinned.checked.prog.funcNamed Rows.styleTextsRow.func = some 5 := by kernel_rfl
theorem inst : (Tryz.f5).isInstance Tryz.pinned.checked.prog Rows.styleTextsRow.origin Rows.styleTextsRow.targs := of_decide_eq_true (by kernel_rfl)
theorem wrap : (Tryz.f5).isWrapper Tryz.pinned.checked.prog Rows.styleTextsRow.wrapper Rows.styleTextsRow.mainSum := by
  unfold Func.isWrapper
  first | (rw [if_pos (by decide +kernel)]; kernel_rfl) | (rw [if_neg (by decide +kernel)]; exact ⟨rfl, rfl⟩)
theorem row : Rows.StyleTextsSaid :=
  OpenClaim.holds_of_cond 5 Tryz.f5 rfl rfl rfl rfl rfl rfl rfl ⟨rfl, rfl, rfl, rfl, rfl⟩ rfl rfl rfl rfl rfl named Tryz.func5 closed inst wrap
    (fun os started H enc _ F => by rw [OpenClaim.pre_eq_preRow]; exact lifted os started H enc F)

theorem plain (f : FuncId) (fn : Func) (hf : Tryz.pinned.checked.prog.funcNamed Rows.styleTextsRow.func = some f) (hfn : Tryz.pinned.checked.prog.funcs[f]? = some fn) :
    true = Tryz.pinned.checked.prog.looks [] ∧ ∀ (j : Nat) t, fn.params[j]? = some t → Tryz.pinned.checked.prog.wantsStandIn t = false := by
  obtain rfl : f = 5 := Option.some.inj ((show Tryz.prog.funcNamed Rows.styleTextsRow.func = some 5 by kernel_rfl).symm.trans hf) |>.symm
  obtain rfl : fn = Tryz.f5 := (Option.some.inj (Tryz.func5.symm.trans hfn)).symm
  refine ⟨by kernel_rfl, fun j t ht => ?_⟩
  rw [Tryz.params5] at ht
  have hm : t ∈ [9, 29] := by simpa using Array.mem_of_getElem? ht
  simp only [List.mem_cons, List.mem_nil_iff, or_false] at hm
  rcases hm with rfl | rfl
  · exact (show Tryz.prog.wantsStandIn 9 = false by kernel_rfl)
  · exact (show Tryz.prog.wantsStandIn 29 = false by kernel_rfl)

theorem proved : Rows.StyleTextsCardSaid :=
  Claim7.holds_tied_plain_at .later [] _ _ _ _ row (fun _ h => by cases h) (by kernel_rfl) (fun _ h => by cases h) styleTexts_row_tie rfl ⟨rfl, rfl⟩ (by kernel_rfl) rfl plain (by kernel_rfl)
end Go.Proofs.YtceanagnkcejgaaGreatDoor.styleTexts
