/- What is proved: StyleBack holds of any text and any style: what the program writes it reads back, and what it reads it writes and reads again as the same. No condition but the form's own. -/
import Derived.Test.YtceanagnkcejgaaDoorSaw
import Derived.Test.YtceanagnkcejgaaDoorArg
import Derived.Test.YtceanagnkcejgaaDoorPost
import Derived.Test.YtceanagnkcejgaaDoorSLftd
import Derived.Test.YtceanagnkcejgaaDoorCards
import Derived.Test.YtceanagnkcejgaaDoorTie
import Derived.ProofKit
import Derived.OpenShut
import Derived.Deep.DeepHandedRow
import Derived.WideKeyArgs
namespace Go.Proofs.YtceanagnkcejgaaDoor.styleBack
open Go.ChangeShapes Go.WideShapes Go.ChangeAt Go.RowKit
open Go.ChangeMaps (open_string shut_string)
set_option linter.unusedVariables false

theorem text_len {s : Sty} (h : wrE s = 0) : (textS s).length ≤ 4096 := by
  obtain ⟨h1, h2, h3⟩ := wrE_ok.1 h
  have l1 := name_len h1
  have l2 : (parT s.pr).length ≤ 13 := by
    unfold parT
    split
    · simp
    · rename_i hp
      rcases h3 with h3 | h3
      · exact absurd h3 hp
      · have := name_len h3
        simp; omega
  have l3 := bits_len7 43 s.ch.on.toNat
  have l4 := bits_len7 45 s.ch.off.toNat
  have l5 : (colT s.ch.col).length ≤ 20 := by
    unfold colT
    split
    · simp
    · have : (itoaL s.ch.col.toNat).length ≤ 2 := by unfold itoaL; split <;> simp
      simp [colorW]; omega
  unfold textS
  simp only [List.length_append]
  omega
theorem parse_text {s : Sty} (h : wrE s = 0) : parseM (textS s) = (s, 0) := by
  unfold parseM
  rw [if_neg (by have := text_len h; omega)]
  exact parse_write h
theorem fit_of {s : Sty} (h : wrE s = 0) : FitS s := by
  obtain ⟨h1, ⟨m, o, e1, e2, e3, e4, _, e5, e6⟩, h3⟩ := wrE_ok.1 h
  have l1 := name_len h1
  refine ⟨by omega, ?_, ?_, ?_, ?_⟩
  · rcases h3 with h3 | h3
    · rw [h3]; simp
    · have := name_len h3; omega
  · unfold In64; omega
  · unfold In64; omega
  · unfold In64; omega
theorem parseW_zero {l : List (List UInt8)} (h : ¬ (parseW l).2 = 0) : (parseW l).1 = zeroS := by
  cases l with
  | nil => rfl
  | cons w r =>
    simp only [parseW] at h ⊢
    cases h1 : nmsM w with
    | none => rfl
    | some p =>
      simp only [h1] at h ⊢
      cases h2 : prs r none0 with
      | none => rfl
      | some c => simp [h2] at h
theorem parse_zero {t : List UInt8} (h : ¬ (parseM t).2 = 0) : (parseM t).1 = zeroS := by
  unfold parseM at h ⊢
  split
  · rfl
  · rename_i h2
    rw [if_neg h2] at h
    exact parseW_zero h
theorem parse_good {t : List UInt8} {s : Sty} (h : parseM t = (s, 0)) : wrE s = 0 := by
  unfold parseM at h
  split at h
  · cases h
  · exact write_parse h

set_option maxRecDepth 100000 in
set_option maxHeartbeats 8000000 in
theorem walk (s0 : ByteArray) (c : Sty) (W : World) (hm : s0.size ≤ 9223372036854775807) (hc : FitS c) (hT : Tabs W) :
    Calls Tryd.prog 5 #[.string s0, styVal c] W fun e W' => e = .returned (.bool true) ∧ Below W.heap.size W W' := by
  obtain ⟨t, rfl⟩ : ∃ t, s0 = bs t := ⟨s0.data.toList, (bs_data s0).symm⟩
  rw [bs_len] at hm
  have HL := Lib.hid hm
  have HT := Lib.hid hT
  have HF := Lib.hid hc
  have HA0 := Lib.hid ((Below.refl _ W).alloc (Nat.le_refl _) (.cells (styCells c) 35))
  have HX0 := Lib.hid (show SBox (W.alloc (.cells (styCells c) 35)) W.heap.size c from heap_alloc_new W _)
  have HAW := Lib.hid (awake_law _ (HT.out.at HA0.out))
  unfold styCells at HA0 HX0 HAW
  clear hm hc hT
  unfold styVal
  go_enter Tryd.func5, Tryd.ntmps5
  go_wp2_with fail
  refine HAW.out.mono ?_
  rintro e w1 ⟨rfl, hb⟩
  have HB1 := Lib.hid (HA0.out.trans (hb.mono HA0.out.size))
  have hx1 := HX0.out.keep hb
  obtain ⟨x0, x1, x2, x3, x4⟩ := hx1.get
  have HX1 := Lib.hid hx1
  have HWR := Lib.hid (Write_pro c w1 HF.out (HT.out.at HB1.out))
  clear hb hx1
  by_cases hw : wrE c = 0
  · rw [write_ok hw] at HWR
    have HW := Lib.hid hw
    unfold styVal wrV at HWR
    clear hw
    go_wp2_with fail
    refine HWR.out.mono ?_
    rintro e w2 ⟨rfl, hb⟩
    have HB2 := Lib.hid (HB1.out.trans (hb.mono HB1.out.size))
    have HX2 := Lib.hid (HX1.out.keep hb)
    have HPA := Lib.hid (Parse_pro (textS c) w2 (HT.out.at HB2.out) (Nat.le_trans (text_len HW.out) (by decide)))
    rw [parse_text HW.out] at HPA
    unfold pzV styVal at HPA
    clear hb x0 x1 x2 x3 x4
    go_wp2_with fail
    refine HPA.out.mono ?_
    rintro e w3 ⟨rfl, hb⟩
    have HB3 := Lib.hid (HB2.out.trans (hb.mono HB2.out.size))
    have hx3 := HX2.out.keep hb
    obtain ⟨x0, x1, x2, x3, x4⟩ := hx3.get
    have hlt := hx3.lt
    have HA3 := Lib.hid (HB3.out.alloc HB3.out.size (.cells (styCells c) 35))
    unfold styCells at HA3
    clear hb hx3
    go_wp2_with fail
    refine (styles_law c _).mono ?_
    rintro e w4 ⟨rfl, hb⟩
    have HB4 := Lib.hid (HA3.out.trans (hb.mono HA3.out.size))
    clear hb x0 x1 x2 x3 x4 hlt
    go_wp2_with fail
    refine (Parse_pro t w4 (HT.out.at HB4.out) HL.out).mono ?_
    rintro e w20 ⟨rfl, hb⟩
    have HB20 := Lib.hid (HB4.out.trans (hb.mono HB4.out.size))
    clear hb
    by_cases hp : (parseM t).2 = 0
    · obtain ⟨p, hpe⟩ : ∃ p, parseM t = (p, 0) := ⟨(parseM t).1, by rw [← hp]⟩
      have HW := Lib.hid (parse_good hpe)
      rw [hpe]
      unfold pzV styVal
      have HA20 := Lib.hid (HB20.out.alloc HB20.out.size (.cells (styCells p) 35))
      have HX20 := Lib.hid (show SBox (w20.alloc (.cells (styCells p) 35)) w20.heap.size p from heap_alloc_new w20 _)
      have HWR := Lib.hid (Write_pro p _ (fit_of HW.out) (HT.out.at HA20.out))
      rw [write_ok HW.out] at HWR
      unfold styVal wrV styCells at HWR
      unfold styCells at HA20 HX20
      clear hp hpe
      go_wp2_with fail
      refine HWR.out.mono ?_
      rintro e w21 ⟨rfl, hb⟩
      have HB21 := Lib.hid (HA20.out.trans (hb.mono HA20.out.size))
      have HX21 := Lib.hid (HX20.out.keep hb)
      have HPA := Lib.hid (Parse_pro (textS p) w21 (HT.out.at HB21.out) (Nat.le_trans (text_len HW.out) (by decide)))
      rw [parse_text HW.out] at HPA
      unfold pzV styVal at HPA
      clear hb
      go_wp2_with fail
      refine HPA.out.mono ?_
      rintro e w22 ⟨rfl, hb⟩
      have HB22 := Lib.hid (HB21.out.trans (hb.mono HB21.out.size))
      have hx22 := HX21.out.keep hb
      obtain ⟨y0, y1, y2, y3, y4⟩ := hx22.get
      have hlt := hx22.lt
      have HA22 := Lib.hid (HB22.out.alloc HB22.out.size (.cells (styCells p) 35))
      unfold styCells at HA22
      clear hb hx22
      go_wp2_with fail
      refine (styles_law p _).mono ?_
      rintro e w23 ⟨rfl, hb⟩
      have HB23 := Lib.hid (HA22.out.trans (hb.mono HA22.out.size))
      clear hb
      go_wp2_with fail
      go_ret
      exact ⟨rfl, HB23.out⟩
    · obtain ⟨q, hq⟩ : ∃ q, parseM t = (zeroS, q) := ⟨(parseM t).2, by rw [← parse_zero hp]⟩
      rw [hq] at hp ⊢
      have tq : ((q : Int) != 0) = true := natne hp
      unfold pzV styVal
      dsimp only [zeroS, zeroC]
      have HA20 := Lib.hid (HB20.out.alloc HB20.out.size (.cells #[.string (bs []), .string (bs []), .int .i64 0, .int .i64 0, .int .i64 0] 35))
      clear hp hq
      go_wp2_with fail
      refine (styles_law zeroS _).mono ?_
      rintro e w23 ⟨rfl, hb⟩
      have HB23 := Lib.hid (HA20.out.trans (hb.mono HA20.out.size))
      clear hb
      go_wp2_with fail
      go_ret
      exact ⟨rfl, HB23.out⟩
  · rw [write_bad rfl hw] at HWR
    have tw : ((wrE c : Int) == 0) = false := by simp; omega
    unfold styVal wrV at HWR
    obtain ⟨q, hq⟩ : ∃ q, wrE c = q := ⟨_, rfl⟩
    rw [hq] at HWR tw
    clear hw hq
    go_wp2_with fail
    refine HWR.out.mono ?_
    rintro e w4 ⟨rfl, hb⟩
    have HB4 := Lib.hid (HB1.out.trans (hb.mono HB1.out.size))
    clear hb x0 x1 x2 x3 x4
    go_wp2_with fail
    refine (Parse_pro t w4 (HT.out.at HB4.out) HL.out).mono ?_
    rintro e w20 ⟨rfl, hb⟩
    have HB20 := Lib.hid (HB4.out.trans (hb.mono HB4.out.size))
    clear hb
    by_cases hp : (parseM t).2 = 0
    · obtain ⟨p, hpe⟩ : ∃ p, parseM t = (p, 0) := ⟨(parseM t).1, by rw [← hp]⟩
      have HW := Lib.hid (parse_good hpe)
      rw [hpe]
      unfold pzV styVal
      have HA20 := Lib.hid (HB20.out.alloc HB20.out.size (.cells (styCells p) 35))
      have HX20 := Lib.hid (show SBox (w20.alloc (.cells (styCells p) 35)) w20.heap.size p from heap_alloc_new w20 _)
      have HWR := Lib.hid (Write_pro p _ (fit_of HW.out) (HT.out.at HA20.out))
      rw [write_ok HW.out] at HWR
      unfold styVal wrV styCells at HWR
      unfold styCells at HA20 HX20
      clear hp hpe
      go_wp2_with fail
      refine HWR.out.mono ?_
      rintro e w21 ⟨rfl, hb⟩
      have HB21 := Lib.hid (HA20.out.trans (hb.mono HA20.out.size))
      have HX21 := Lib.hid (HX20.out.keep hb)
      have HPA := Lib.hid (Parse_pro (textS p) w21 (HT.out.at HB21.out) (Nat.le_trans (text_len HW.out) (by decide)))
      rw [parse_text HW.out] at HPA
      unfold pzV styVal at HPA
      clear hb
      go_wp2_with fail
      refine HPA.out.mono ?_
      rintro e w22 ⟨rfl, hb⟩
      have HB22 := Lib.hid (HB21.out.trans (hb.mono HB21.out.size))
      have hx22 := HX21.out.keep hb
      obtain ⟨y0, y1, y2, y3, y4⟩ := hx22.get
      have hlt := hx22.lt
      have HA22 := Lib.hid (HB22.out.alloc HB22.out.size (.cells (styCells p) 35))
      unfold styCells at HA22
      clear hb hx22
      go_wp2_with fail
      refine (styles_law p _).mono ?_
      rintro e w23 ⟨rfl, hb⟩
      have HB23 := Lib.hid (HA22.out.trans (hb.mono HA22.out.size))
      clear hb
      go_wp2_with fail
      go_ret
      exact ⟨rfl, HB23.out⟩
    · obtain ⟨q, hq⟩ : ∃ q, parseM t = (zeroS, q) := ⟨(parseM t).2, by rw [← parse_zero hp]⟩
      rw [hq] at hp ⊢
      have tq : ((q : Int) != 0) = true := natne hp
      unfold pzV styVal
      dsimp only [zeroS, zeroC]
      have HA20 := Lib.hid (HB20.out.alloc HB20.out.size (.cells #[.string (bs []), .string (bs []), .int .i64 0, .int .i64 0, .int .i64 0] 35))
      clear hp hq
      go_wp2_with fail
      refine (styles_law zeroS _).mono ?_
      rintro e w23 ⟨rfl, hb⟩
      have HB23 := Lib.hid (HA20.out.trans (hb.mono HA20.out.size))
      clear hb
      go_wp2_with fail
      go_ret
      exact ⟨rfl, HB23.out⟩

set_option maxRecDepth 100000 in
theorem contract (H : Type) (enc : TypeId × Value → H) (W : World) (base : Nat) (args : Array Value) (ds gs : List (DataW H)) (before : List MemPlace)
    (hval : ∀ (j : Nat) t v, Tryd.f5.params[j]? = some t → args[j]? = some v → Value.okWide Tryd.prog W .any base t v)
    (hW : DataW.Whole enc Tryd.prog Tryd.f5.params.toList Rows.styleBackSpec.vars false W args.toList ds gs before) (hsz0 : (DataW.weightsEach Tryd.prog (Tryd.f5.params.toList ++ Rows.styleBackSpec.plain.varTypes Tryd.prog) (ds ++ gs)).all (· ≤ reachBytes) = true) (hT : Tabs W) :
    Calls Tryd.prog 5 args W fun e W' => ∃ v, e = .returned v ∧ Rows.styleBackSpec.post enc Tryd.prog Tryd.f5 false true false false W args v W' := by
  have hW' := hW
  obtain ⟨p, q, hA0, hV, rfl, hfz, hnd⟩ := hW
  have hA : DataW.TrodAll enc Tryd.prog W 0 (fun _ => true) true Tryd.f5.params.toList args.toList ds p := hA0
  rw [Tryd.params5] at hA hval
  have hsz := hsz0
  rw [Tryd.params5] at hsz
  clear hsz0
  obtain ⟨v0, vs0, d0, ds0, p0, q0, hargs, rfl, rfl, h0, r0⟩ := trodAll_cons hA
  obtain ⟨v1, vs1, d1, ds1, p1, q1, rfl, rfl, rfl, h1, r1⟩ := trodAll_cons r0
  obtain ⟨rfl, rfl, rfl⟩ := trodAll_nil r1
  obtain rfl : args = #[v0, v1] := by cases args; simp_all
  obtain ⟨rfl, rfl⟩ := trodVars_none hV
  obtain ⟨s0, rfl, rfl, rfl, hm0⟩ := open_string Tryd.underlying9 (hval 0 9 v0 rfl rfl) h0
  have hk1 := h1
  obtain ⟨c1, rfl, hc1⟩ := sty_read h1 (hval 1 35 v1 rfl rfl)
  clear hA0
  refine (walk s0 c1 W hm0 hc1 hT).mono fun e W' ⟨he, hg⟩ => ?_
  subst he
  have hlt := hW'.lt
  exact ⟨_, rfl, post_of_below (pa := ([] ++ (p1 ++ []))) (pv := []) hW' (fun _ _ _ => trodAll_cons_mk (shut_bool Tryd.underlying4 _) trodAll_mk0) (fun sp hsp => (trodAll_cons_mk (shut_string Tryd.underlying9 hm0) (trodAll_cons_mk (Go.WideElems.Trod_stays (by kernel_rfl) (by kernel_rfl) (of_decide_eq_true (by kernel_rfl)) hk1 (fun p hp => hg.same (hlt p (by simp [hp]))) (fun p hp => hsp p (by simp [hp]))) trodAll_mk0))) (fun _ _ => rfl) rfl hg (ok_one (by kernel_rfl) rfl (okWide_bool_mk Tryd.underlying4 _))⟩

theorem witness_row (os : Os) {H : Type} (enc : TypeId × Value → H) :
    (OpenSpec.ofChange Rows.styleBackSpec).preRow enc Tryd.prog Tryd.f5 Rows.styleBackRow.domain false Rows.styleBackRow.laid ((laidWorld os).forCall (fun _ _ => 0) ⟨#[], #[.string .empty, .agg #[.string .empty, .string .empty, .int .i64 0, .int .i64 0, .int .i64 0]], []⟩).memory #[.string .empty, .agg #[.string .empty, .string .empty, .int .i64 0, .int .i64 0, .int .i64 0]] := by
  have hw : (DataW.whole enc Tryd.prog ((laidWorld os).forCall (fun _ _ => 0) ⟨#[], #[.string .empty, .agg #[.string .empty, .string .empty, .int .i64 0, .int .i64 0, .int .i64 0]], []⟩).memory Tryd.f5.params.toList Rows.styleBackSpec.vars false (#[.string .empty, .agg #[.string .empty, .string .empty, .int .i64 0, .int .i64 0, .int .i64 0]] : Array Value).toList 8).map (fun x => (x.1, x.2.1)) =
      some ([.lit (.string []), .agg [.lit (.string []), .lit (.string []), .agg [.lit (.int .i64 0), .lit (.int .i64 0), .lit (.int .i64 0)]]], []) := by kernel_rfl
  obtain ⟨⟨x1, x2, x3⟩, hx, hx1⟩ := Option.map_eq_some_iff.1 hw
  simp only [Prod.mk.injEq] at hx1
  obtain ⟨rfl, rfl⟩ := hx1
  exact OpenSpec.preRow_of_cond 8 hx (by kernel_rfl) (fun k hk => by cases hk) (by kernel_rfl) (laid_met os _)

set_option maxRecDepth 100000 in
theorem lifted (os : Os) (started : os.Started) (H : Type) (enc : TypeId × Value → H) (F : Stop.Interp) :
    ReturnsInHanded {} Tryd.checked os 5 .any ((OpenSpec.ofChange Rows.styleBackSpec).preRow enc Tryd.prog Tryd.f5 Rows.styleBackRow.domain false Rows.styleBackRow.laid) (((OpenSpec.ofChange Rows.styleBackSpec).at F).post enc Tryd.prog Tryd.f5 false true false false) := by
  refine returnsInHanded_of_row (C := Tryd.checked) (s := (OpenSpec.ofChange Rows.styleBackSpec)) own started (by kernel_rfl) Tryd.func5
    (witness_row_at (enc := enc) (C := Tryd.checked) false (laidWorld os) #[.string .empty, .agg #[.string .empty, .string .empty, .int .i64 0, .int .i64 0, .int .i64 0]] rfl (by kernel_rfl) (by kernel_rfl) (by kernel_rfl) (witness_row os enc)) ?_
  intro W base args ds gs before hval hW _ hcond hsz hL hS _
  exact contract H enc W base args ds gs before hval hW hsz (tabs_of hL hS)

set_option maxHeartbeats 16000000 in
theorem closed : joinedFacts Tryd.pinned.checked.prog 5 Tryd.f5 ((OpenSpec.ofChange Rows.styleBackSpec)).bare Rows.styleBackRow = true := by
  unfold joinedFacts
  repeat' (with_reducible refine Bool.and_eq_true_iff.2 ⟨?_, ?_⟩)
  all_goals (as_aux_lemma => kernel_rfl)
theorem named : Tryd.pinned.checked.prog.funcNamed Rows.styleBackRow.func = some 5 := by kernel_rfl
theorem inst : (Tryd.f5).isInstance Tryd.pinned.checked.prog Rows.styleBackRow.origin Rows.styleBackRow.targs := of_decide_eq_true (by kernel_rfl)
theorem wrap : (Tryd.f5).isWrapper Tryd.pinned.checked.prog Rows.styleBackRow.wrapper Rows.styleBackRow.mainSum := by
  unfold Func.isWrapper
  first | (rw [if_pos (by decide +kernel)]; kernel_rfl) | (rw [if_neg (by decide +kernel)]; exact ⟨rfl, rfl⟩)
theorem row : Rows.StyleBackSaid :=
  OpenClaim.holds_of_cond 5 Tryd.f5 rfl rfl rfl rfl rfl rfl rfl ⟨rfl, rfl, rfl, rfl, rfl⟩ rfl rfl rfl rfl rfl named Tryd.func5 closed inst wrap
    (fun os started H enc _ F => by rw [OpenClaim.pre_eq_preRow]; exact lifted os started H enc F)

theorem plain (f : FuncId) (fn : Func) (hf : Tryd.pinned.checked.prog.funcNamed Rows.styleBackRow.func = some f) (hfn : Tryd.pinned.checked.prog.funcs[f]? = some fn) :
    true = Tryd.pinned.checked.prog.looks [] ∧ ∀ (j : Nat) t, fn.params[j]? = some t → Tryd.pinned.checked.prog.wantsStandIn t = false := by
  obtain rfl : f = 5 := Option.some.inj ((show Tryd.prog.funcNamed Rows.styleBackRow.func = some 5 by kernel_rfl).symm.trans hf) |>.symm
  obtain rfl : fn = Tryd.f5 := (Option.some.inj (Tryd.func5.symm.trans hfn)).symm
  refine ⟨by kernel_rfl, fun j t ht => ?_⟩
  rw [Tryd.params5] at ht
  have hm : t ∈ [9, 35] := by simpa using Array.mem_of_getElem? ht
  simp only [List.mem_cons, List.mem_nil_iff, or_false] at hm
  rcases hm with rfl | rfl
  · exact (show Tryd.prog.wantsStandIn 9 = false by kernel_rfl)
  · exact (show Tryd.prog.wantsStandIn 35 = false by kernel_rfl)

theorem proved : Rows.StyleBackCardSaid :=
  Claim7.holds_tied_plain_at .later [] _ _ _ _ row (fun _ h => by cases h) (by kernel_rfl) (fun _ h => by cases h) styleBack_row_tie rfl ⟨rfl, rfl⟩ (by kernel_rfl) rfl plain (by kernel_rfl)
end Go.Proofs.YtceanagnkcejgaaDoor.styleBack
