/- What is proved: TextWide holds of any two texts: how wide they are, one behind the other. Its condition: what comes in is of bulk at most 1048576 (the statement's second form). -/
import Derived.Test.YthojhjimgfbcbaaDoorAwake
import Derived.Test.YthojhjimgfbcbaaDoorPost
import Derived.Test.YthojhjimgfbcbaaDoorJoin
import Derived.Test.YthojhjimgfbcbaaDoorLft
import Derived.Test.YthojhjimgfbcbaaDoorCards
import Derived.Test.YthojhjimgfbcbaaDoorTie
import Derived.ProofKit
import Derived.OpenShut
import Derived.Deep.DeepHandedRow
namespace Go.Proofs.YthojhjimgfbcbaaDoor.textWide
open Go.ChangeShapes Go.WideShapes Go.ChangeAt Go.RowKit
open Go.ChangeMaps (open_string shut_string)
set_option linter.unusedVariables false

set_option maxRecDepth 100000 in
set_option maxHeartbeats 1000000 in
theorem walk (a b : ByteArray) (ha : a.size ≤ 1048576) (hb : b.size ≤ 1048576) (w : World) (hT : Tabs w) :
    Calls Tryd.prog 9 #[.string a, .string b] w fun e w' => e = .returned (.bool true) ∧ Below w.heap.size w w' := by
  have HA := Lib.hid (show a.size ≤ 16777216 by omega)
  have HB := Lib.hid (show b.size ≤ 16777216 by omega)
  have hab : (a ++ b).size ≤ 16777216 := by rw [ByteArray.size_append]; omega
  have HAB := Lib.hid hab
  have hl : (chars (a ++ b)).length ≤ 16777216 := Nat.le_trans (chars_len _) hab
  clear hab
  have HTW := Lib.hid hT
  clear hT
  go_enter Tryd.func9, Tryd.ntmps9
  go_wp2_with fail
  refine (awake_law _ HTW.out).mono ?_
  rintro e w1 ⟨rfl, h1⟩
  have Z1 := Lib.hid h1
  clear h1
  go_wp2_with fail
  refine (chars_ref _ _ HAB.out).mono ?_
  rintro e w2 ⟨vc, xc, rfl, oc, cc, h2⟩
  have Z2 := Lib.hid (Z1.out.trans (h2.mono Z1.out.size))
  have OC := Lib.hid oc
  have CC := Lib.hid cc
  clear h2 oc cc
  obtain ⟨pc, kc, rfl⟩ := lenOf OC.out
  go_wp2_with fail
  go_loop [6, 7] (fun t i => ∃ (k : Nat) (tb : Bool), i = .int .i64 k ∧ t = .bool tb ∧ k ≤ (chars (a ++ b)).length ∧ (tb = true → a.size = 0 ∨ ∃ c ∈ chars (a ++ b), c.1 = a.size)) (fun _ i => (chars (a ++ b)).length - (intOf i).toNat)
  case atStart => exact ⟨0, false, rfl, rfl, Nat.zero_le _, fun h => absurd h (by decide)⟩
  case round =>
    obtain ⟨k, tb, rfl, rfl, hk, ht⟩ := hrel
    have HT := Lib.hid ht
    clear ht
    by_cases hlt : k < (chars (a ++ b)).length
    · obtain ⟨gc, kc2, ec, _, _⟩ := World.ownsRow.form OC.out (by omega)
      cases ec
      obtain ⟨c, hc⟩ : ∃ c, (chars (a ++ b))[k]? = some c := ⟨_, List.getElem?_eq_getElem hlt⟩
      have c1 := (World.ownsRow.cellAt OC.out (k * 4 + 1) (by omega)).trans (CC.out.2 k c hc).2.1
      have HM := Lib.hid (show c ∈ chars (a ++ b) from List.mem_of_getElem? hc)
      clear hc
      cases tb
      · by_cases e1 : c.1 = a.size
        · have E1 := Lib.hid e1
          have t1 : ((c.1 : Int) == a.size) = true := by simp; omega
          clear e1
          go_wp2_with fail
          all_goals go_round
          all_goals first | exact ⟨k + 1, _, by go_num, rfl, by omega, fun _ => .inr ⟨c, HM.out, E1.out⟩⟩ | (simp [intOf]; done) | (simp [intOf]; omega)
        · have t1 : ((c.1 : Int) == a.size) = false := by simp; omega
          clear e1
          go_wp2_with fail
          all_goals go_round
          all_goals first | exact ⟨k + 1, _, by go_num, rfl, by omega, fun h => absurd h (by decide)⟩ | (simp [intOf]; done) | (simp [intOf]; omega)
      · go_wp2_with fail
        all_goals go_round
        all_goals first | exact ⟨k + 1, _, by go_num, rfl, by omega, fun _ => HT.out rfl⟩ | (simp [intOf]; done) | (simp [intOf]; omega)
    · obtain rfl : k = (chars (a ++ b)).length := by omega
      have hba : a.size + b.size ≤ 9223372036854775807 := by omega
      by_cases hb0 : b.size = 0
      · have t0 : b.toList.isEmpty = true := by rw [ByteArray.toList_eq]; cases b with | mk d => cases d with | mk l => cases l with | nil => rfl | cons x y => simp [ByteArray.size] at hb0
        have E0 := Lib.hid (wide_nil a b hb0)
        clear hb0
        go_wp2_with fail
        refine (wide_pro _ _ HAB.out).mono ?_
        rintro e w3 ⟨rfl, h3⟩
        have Z3 := Lib.hid (Z2.out.trans (h3.mono Z2.out.size))
        clear h3
        rw [E0.out]
        go_wp2_with fail
        refine (wide_pro _ _ HA.out).mono ?_
        rintro e w4 ⟨rfl, h4⟩
        have Z4 := Lib.hid (Z3.out.trans (h4.mono Z3.out.size))
        clear h4
        go_wp2_with fail
        go_ret
        exact ⟨rfl, Z4.out⟩
      · have t0 : b.toList.isEmpty = false := by
          rw [ByteArray.toList_eq]
          cases b with | mk d => cases d with | mk l => cases l with
            | nil => exact absurd rfl hb0
            | cons x y => rfl
        have hlb : (chars b).length ≤ 16777216 := Nat.le_trans (chars_len _) HB.out
        have hla : (chars a).length ≤ 16777216 := Nat.le_trans (chars_len _) HA.out
        obtain ⟨d, l, hd⟩ : ∃ d l, chars b = d :: l := by
          cases e : chars b with
          | cons d l => exact ⟨d, l, rfl⟩
          | nil =>
            exfalso
            unfold chars at e
            obtain ⟨f, hf⟩ : ∃ f, b.size = f + 1 := ⟨b.size - 1, by omega⟩
            rw [hf] at e
            simp [chs, hf] at e
        have HD := Lib.hid hd
        clear hd hb0
        go_wp2_with fail
        refine (chars_ref _ _ HB.out).mono ?_
        rintro e w3 ⟨vd, xd, rfl, od, cd, h3⟩
        have Z3 := Lib.hid (Z2.out.trans (h3.mono Z2.out.size))
        have OD := Lib.hid od
        have CD := Lib.hid cd
        clear h3 od cd
        obtain ⟨pd, kd, rfl⟩ := lenOf OD.out
        cases tb
        · go_wp2_with fail
          go_ret
          exact ⟨rfl, Z3.out⟩
        · have HQ := Lib.hid (HT.out rfl)
          have HJ := Lib.hid (chars_join a b HQ.out)
          have hlen : (chars (a ++ b)).length = (chars a).length + (chars b).length := by rw [HJ.out]; simp
          have tl : (((chars a).length : Int) + (chars b).length != (chars (a ++ b)).length) = false := by simp; omega
          have hpos : 0 < (chars b).length := by rw [HD.out]; simp
          have hpos2 : (0 : Int) < (chars b).length := by omega
          clear hlen
          go_wp2_with fail
          refine (chars_ref _ _ HA.out).mono ?_
          rintro e w4 ⟨va, xa, rfl, oa, ca, h4⟩
          have Z4 := Lib.hid (Z3.out.trans (h4.mono Z3.out.size))
          have OD4 := Lib.hid (own_below OD.out h4)
          obtain ⟨pa, ka, rfl⟩ := lenOf oa
          clear h4 oa ca
          obtain ⟨gd, kd2, ed, _, _⟩ := World.ownsRow.form OD4.out hpos
          cases ed
          have d0 := (World.ownsRow.cellAt OD4.out 0 (by omega)).trans (CD.out.2 0 d (by rw [HD.out]; rfl)).1
          go_wp2_with fail
          refine (width_ref _ _).mono ?_
          rintro e w5 ⟨rfl, rfl⟩
          by_cases hz : wid d.2.1 = 0
          · go_wp2_with fail
            go_ret
            exact ⟨rfl, Z4.out⟩
          · have tz : (wid d.2.1 == 0) = false := by simpa using hz
            have HW := Lib.hid (wide_join a b HQ.out d l HD.out hz)
            have wa := sumW_take_bd a (cells a).length
            have wb := sumW_take_bd b (cells b).length
            rw [List.take_length] at wa wb
            have la := cells_len a
            have lb := cells_len b
            have q1 : 0 ≤ wide a := wa.1
            have q2 : wide a ≤ 33554432 := by have := HA.out; have := wa.2; unfold wide; omega
            have q3 : 0 ≤ wide b := wb.1
            have q4 : wide b ≤ 33554432 := by have := HB.out; have := wb.2; unfold wide; omega
            clear hz wa wb la lb
            go_wp2_with fail
            refine (wide_pro _ _ HAB.out).mono ?_
            rintro e w6 ⟨rfl, h6⟩
            have Z6 := Lib.hid (Z4.out.trans (h6.mono Z4.out.size))
            clear h6
            rw [HW.out]
            go_wp2_with fail
            refine (wide_pro _ _ HA.out).mono ?_
            rintro e w7 ⟨rfl, h7⟩
            have Z7 := Lib.hid (Z6.out.trans (h7.mono Z6.out.size))
            clear h7
            go_wp2_with fail
            refine (wide_pro _ _ HB.out).mono ?_
            rintro e w8 ⟨rfl, h8⟩
            have Z8 := Lib.hid (Z7.out.trans (h8.mono Z7.out.size))
            clear h8
            go_wp2_with fail
            go_ret
            exact ⟨rfl, Z8.out⟩

set_option maxRecDepth 100000 in
theorem contract (H : Type) (enc : TypeId × Value → H) (W : World) (base : Nat) (args : Array Value) (ds gs : List (DataW H)) (before : List MemPlace)
    (hval : ∀ (j : Nat) t v, Tryd.f9.params[j]? = some t → args[j]? = some v → Value.okWide Tryd.prog W .any base t v)
    (hW : DataW.Whole enc Tryd.prog Tryd.f9.params.toList Rows.textWideSpec.vars false W args.toList ds gs before) (hk : Rows.uptoSmall H (ds ++ gs) = true) (hT : Tabs W) :
    Calls Tryd.prog 9 args W fun e W' => ∃ v, e = .returned v ∧ Rows.textWideSpec.post enc Tryd.prog Tryd.f9 false true false false W args v W' := by
  have hW' := hW
  obtain ⟨p, q, hA0, hV, rfl, hfz, hnd⟩ := hW
  have hA : DataW.TrodAll enc Tryd.prog W 0 (fun _ => true) true Tryd.f9.params.toList args.toList ds p := hA0
  rw [Tryd.params9] at hA hval
  obtain ⟨v0, vs0, d0, ds0, p0, q0, hargs, rfl, rfl, h0, r0⟩ := trodAll_cons hA
  obtain ⟨v1, vs1, d1, ds1, p1, q1, rfl, rfl, rfl, h1, r1⟩ := trodAll_cons r0
  obtain ⟨rfl, rfl, rfl⟩ := trodAll_nil r1
  obtain rfl : args = #[v0, v1] := by cases args; simp_all
  obtain ⟨rfl, rfl⟩ := trodVars_none hV
  obtain ⟨s0, rfl, rfl, rfl, hm0⟩ := open_string Tryd.underlying9 (hval 0 9 v0 rfl rfl) h0
  obtain ⟨s1, rfl, rfl, rfl, hm1⟩ := open_string Tryd.underlying9 (hval 1 9 v1 rfl rfl) h1
  clear hA0
  simp only [List.append_nil] at hW' hk
  have hb0 := of_decide_eq_true hk
  simp only [Rows.uptoBulkAll, Rows.uptoBulk] at hb0
  have size0 : s0.size ≤ 1048576 := by
    have e : s0.data.toList.length = s0.size := by rw [Array.length_toList]; rfl
    omega
  have size1 : s1.size ≤ 1048576 := by
    have e : s1.data.toList.length = s1.size := by rw [Array.length_toList]; rfl
    omega
  refine (walk s0 s1 size0 size1 W hT).mono fun e W' ⟨he, hg⟩ => ?_
  subst he
  exact ⟨_, rfl, post_of_below (pa := []) (pv := []) hW' (fun _ _ _ => trodAll_cons_mk (shut_bool Tryd.underlying4 _) trodAll_mk0) (fun _ _ => (trodAll_cons_mk (shut_string Tryd.underlying9 hm0) (trodAll_cons_mk (shut_string Tryd.underlying9 hm1) trodAll_mk0))) (fun _ _ => rfl) rfl hg (ok_one (by kernel_rfl) rfl (okWide_bool_mk Tryd.underlying4 _))⟩

theorem witness_row (os : Os) {H : Type} (enc : TypeId × Value → H) :
    (Rows.OpenSpec.upto Rows.textWideSpec).preRow enc Tryd.prog Tryd.f9 Rows.textWideUptoRow.domain false Rows.textWideUptoRow.laid ((laidWorld os).forCall (fun _ _ => 0) ⟨#[], #[.string .empty, .string .empty], []⟩).memory #[.string .empty, .string .empty] := by
  have hw : (DataW.whole enc Tryd.prog ((laidWorld os).forCall (fun _ _ => 0) ⟨#[], #[.string .empty, .string .empty], []⟩).memory Tryd.f9.params.toList Rows.textWideSpec.vars false (#[.string .empty, .string .empty] : Array Value).toList 8).map (fun x => (x.1, x.2.1)) =
      some ([.lit (.string []), .lit (.string [])], []) := by kernel_rfl
  obtain ⟨⟨x1, x2, x3⟩, hx, hx1⟩ := Option.map_eq_some_iff.1 hw
  simp only [Prod.mk.injEq] at hx1
  obtain ⟨rfl, rfl⟩ := hx1
  exact OpenSpec.preRow_of_cond 8 hx (by kernel_rfl) (fun k hk => by cases hk; kernel_rfl) (by kernel_rfl) (laid_met os _)

set_option maxRecDepth 100000 in
theorem lifted (os : Os) (started : os.Started) (H : Type) (enc : TypeId × Value → H) (F : Stop.Interp) :
    ReturnsInHanded {} Tryd.checked os 9 .any ((Rows.OpenSpec.upto Rows.textWideSpec).preRow enc Tryd.prog Tryd.f9 Rows.textWideUptoRow.domain false Rows.textWideUptoRow.laid) (((Rows.OpenSpec.upto Rows.textWideSpec).at F).post enc Tryd.prog Tryd.f9 false true false false) := by
  refine returnsInHanded_of_row (C := Tryd.checked) (s := (Rows.OpenSpec.upto Rows.textWideSpec)) own started (by kernel_rfl) Tryd.func9
    (witness_row_at (enc := enc) (C := Tryd.checked) false (laidWorld os) #[.string .empty, .string .empty] rfl (by kernel_rfl) (by kernel_rfl) (by kernel_rfl) (witness_row os enc)) ?_
  intro W base args ds gs before hval hW _ hcond _ hL hS _
  exact contract H enc W base args ds gs before hval hW (hcond _ rfl) (tabs_of hL hS)

theorem row : Rows.TextWideUptoSaid :=
  OpenClaim.holds_of_cond 9 Tryd.f9 rfl rfl rfl rfl rfl rfl rfl ⟨rfl, rfl, rfl, rfl, rfl⟩ rfl rfl rfl rfl rfl (by kernel_rfl) Tryd.func9 (by kernel_rfl)
    (of_decide_eq_true (by kernel_rfl)) (by unfold Func.isWrapper; first | (rw [if_pos (by decide +kernel)]; kernel_rfl) | (rw [if_neg (by decide +kernel)]; exact ⟨rfl, rfl⟩))
    (fun os started H enc _ F => by rw [OpenClaim.pre_eq_preRow]; exact lifted os started H enc F)

theorem plain (f : FuncId) (fn : Func) (hf : Tryd.pinned.checked.prog.funcNamed Rows.textWideUptoRow.func = some f) (hfn : Tryd.pinned.checked.prog.funcs[f]? = some fn) :
    false = Tryd.pinned.checked.prog.looks [] ∧ ∀ (j : Nat) t, fn.params[j]? = some t → Tryd.pinned.checked.prog.wantsStandIn t = false := by
  obtain rfl : f = 9 := Option.some.inj ((show Tryd.prog.funcNamed Rows.textWideUptoRow.func = some 9 by kernel_rfl).symm.trans hf) |>.symm
  obtain rfl : fn = Tryd.f9 := (Option.some.inj (Tryd.func9.symm.trans hfn)).symm
  refine ⟨by kernel_rfl, fun j t ht => ?_⟩
  rw [Tryd.params9] at ht
  have hm : t ∈ [9, 9] := by simpa using Array.mem_of_getElem? ht
  simp only [List.mem_cons, List.mem_nil_iff, or_false] at hm
  rcases hm with rfl | rfl
  · exact (show Tryd.prog.wantsStandIn 9 = false by kernel_rfl)
  · exact (show Tryd.prog.wantsStandIn 9 = false by kernel_rfl)

theorem proved : Rows.TextWideUptoCardSaid :=
  Claim7.holds_tied_plain_at .later [] _ _ _ _ row (fun _ h => by cases h) (by kernel_rfl) (fun _ h => by cases h) textWideUpto_row_tie rfl ⟨rfl, rfl⟩ (by kernel_rfl) rfl plain (by kernel_rfl)
end Go.Proofs.YthojhjimgfbcbaaDoor.textWide
