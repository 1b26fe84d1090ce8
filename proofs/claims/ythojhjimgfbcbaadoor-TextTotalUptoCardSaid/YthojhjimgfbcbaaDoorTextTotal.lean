/- What is proved: TextTotal holds of any three texts: Compare is a total order, 0 just of equal texts. Its condition: what comes in is of bulk at most 1048576 (the statement's second form). -/
import Derived.Test.YthojhjimgfbcbaaDoorAwake
import Derived.Test.YthojhjimgfbcbaaDoorPost
import Derived.Test.YthojhjimgfbcbaaDoorTot
import Derived.Test.YthojhjimgfbcbaaDoorLft
import Derived.Test.YthojhjimgfbcbaaDoorCards
import Derived.Test.YthojhjimgfbcbaaDoorTie
import Derived.ProofKit
import Derived.OpenShut
import Derived.Deep.DeepHandedRow
namespace Go.Proofs.YthojhjimgfbcbaaDoor.textTotal
open Go.ChangeShapes Go.WideShapes Go.ChangeAt Go.RowKit
open Go.ChangeMaps (open_string shut_string)
set_option linter.unusedVariables false

set_option maxRecDepth 100000 in
set_option maxHeartbeats 1000000 in
theorem walk (a b c : ByteArray) (ha : a.size ≤ 1048576) (hb : b.size ≤ 1048576) (hc : c.size ≤ 1048576) (w : World) (hT : Tabs w) :
    Calls Tryd.prog 11 #[.string a, .string b, .string c] w fun e w' => e = .returned (.bool true) ∧ Below w.heap.size w w' := by
  have HA := Lib.hid (show a.size ≤ 16777216 by omega)
  have HB := Lib.hid (show b.size ≤ 16777216 by omega)
  have HC := Lib.hid (show c.size ≤ 16777216 by omega)
  clear ha hb hc
  obtain ⟨x, hx⟩ : ∃ x, x = compare a b := ⟨_, rfl⟩
  obtain ⟨y, hy⟩ : ∃ y, y = compare b c := ⟨_, rfl⟩
  obtain ⟨z, hz⟩ : ∃ z, z = compare a c := ⟨_, rfl⟩
  have rx := compare_ord.rng a b
  have t1 := compare_ord.trans a b c
  have t2 := compare_ord.trans c b a
  have a1 := compare_ord.anti a b
  have a2 := compare_ord.anti b c
  have a3 := compare_ord.anti a c
  have s1 := Lib.hid (compare_ord.self a)
  have x1 : -1 ≤ x := by omega
  have x2 : x ≤ 1 := by omega
  have T1 := Lib.hid (show x ≤ 0 → y ≤ 0 → z ≤ 0 by omega)
  have T2 := Lib.hid (show 0 ≤ x → 0 ≤ y → 0 ≤ z by omega)
  have A1 := Lib.hid (show compare b a = -x by omega)
  have HE := Lib.hid (show (x == 0) = (a.toList == b.toList) by
    rw [Bool.eq_iff_iff]
    simp only [beq_iff_eq]
    constructor
    · intro h; rw [compare_zero (show compare a b = 0 by omega)]
    · intro h; have h2 := same_text h; subst h2; have := compare_ord.self a; omega)
  have HX := Lib.hid hx
  have HY := Lib.hid hy
  have HZ := Lib.hid hz
  clear rx t1 t2 a1 a2 a3 hx hy hz
  have HTW := Lib.hid hT
  clear hT
  go_enter Tryd.func11, Tryd.ntmps11
  go_wp2_with fail
  refine (compare_pro _ _ _ HA.out HB.out HTW.out).mono ?_
  rintro e w1 ⟨rfl, h1⟩
  have Z1 := Lib.hid h1
  clear h1
  rw [← HX.out]
  go_wp2_with fail
  refine (compare_pro _ _ _ HB.out HC.out (HTW.out.at Z1.out)).mono ?_
  rintro e w2 ⟨rfl, h2⟩
  have Z2 := Lib.hid (Z1.out.trans (h2.mono Z1.out.size))
  clear h2
  rw [← HY.out]
  go_wp2_with fail
  refine (compare_pro _ _ _ HA.out HC.out (HTW.out.at Z2.out)).mono ?_
  rintro e w3 ⟨rfl, h3⟩
  have Z3 := Lib.hid (Z2.out.trans (h3.mono Z2.out.size))
  clear h3
  rw [← HZ.out]
  go_wp2_with fail
  refine (awake_law _ (HTW.out.at Z3.out)).mono ?_
  rintro e w4 ⟨rfl, h4⟩
  have Z4 := Lib.hid (Z3.out.trans (h4.mono Z3.out.size))
  clear h4
  go_wp2_with fail
  refine (compare_pro _ _ _ HB.out HA.out (HTW.out.at Z4.out)).mono ?_
  rintro e w5 ⟨rfl, h5⟩
  have Z5 := Lib.hid (Z4.out.trans (h5.mono Z4.out.size))
  clear h5
  rw [A1.out]
  have he := HE.out
  go_wp2_with fail
  clear he
  refine (compare_pro _ _ _ HA.out HA.out (HTW.out.at Z5.out)).mono ?_
  rintro e w6 ⟨rfl, h6⟩
  have Z6 := Lib.hid (Z5.out.trans (h6.mono Z5.out.size))
  clear h6
  rw [s1.out]
  go_wp2_with fail
  all_goals go_ret
  all_goals
    refine ⟨ret_bool ?_, Z6.out⟩
    have q1 := T1.out
    have q2 := T2.out
    first | rfl | (exfalso; omega) | (simp; omega)

set_option maxRecDepth 100000 in
theorem contract (H : Type) (enc : TypeId × Value → H) (W : World) (base : Nat) (args : Array Value) (ds gs : List (DataW H)) (before : List MemPlace)
    (hval : ∀ (j : Nat) t v, Tryd.f11.params[j]? = some t → args[j]? = some v → Value.okWide Tryd.prog W .any base t v)
    (hW : DataW.Whole enc Tryd.prog Tryd.f11.params.toList Rows.textTotalSpec.vars false W args.toList ds gs before) (hk : Rows.uptoSmall H (ds ++ gs) = true) (hT : Tabs W) :
    Calls Tryd.prog 11 args W fun e W' => ∃ v, e = .returned v ∧ Rows.textTotalSpec.post enc Tryd.prog Tryd.f11 false true false false W args v W' := by
  have hW' := hW
  obtain ⟨p, q, hA0, hV, rfl, hfz, hnd⟩ := hW
  have hA : DataW.TrodAll enc Tryd.prog W 0 (fun _ => true) true Tryd.f11.params.toList args.toList ds p := hA0
  rw [Tryd.params11] at hA hval
  obtain ⟨v0, vs0, d0, ds0, p0, q0, hargs, rfl, rfl, h0, r0⟩ := trodAll_cons hA
  obtain ⟨v1, vs1, d1, ds1, p1, q1, rfl, rfl, rfl, h1, r1⟩ := trodAll_cons r0
  obtain ⟨v2, vs2, d2, ds2, p2, q2, rfl, rfl, rfl, h2, r2⟩ := trodAll_cons r1
  obtain ⟨rfl, rfl, rfl⟩ := trodAll_nil r2
  obtain rfl : args = #[v0, v1, v2] := by cases args; simp_all
  obtain ⟨rfl, rfl⟩ := trodVars_none hV
  obtain ⟨s0, rfl, rfl, rfl, hm0⟩ := open_string Tryd.underlying9 (hval 0 9 v0 rfl rfl) h0
  obtain ⟨s1, rfl, rfl, rfl, hm1⟩ := open_string Tryd.underlying9 (hval 1 9 v1 rfl rfl) h1
  obtain ⟨s2, rfl, rfl, rfl, hm2⟩ := open_string Tryd.underlying9 (hval 2 9 v2 rfl rfl) h2
  clear hA0
  simp only [List.append_nil] at hW' hk
  have hb0 := of_decide_eq_true hk
  simp only [Rows.uptoBulkAll, Rows.uptoBulk] at hb0
  have size0 : s0.size ≤ 1048576 := by
    have e : s0.data.toList.length = s0.size := by rw [Array.length_toList]; rfl
    omega
  have size1 : s1.size ≤ 1048576 := by
    have e : s1.data.toList.length = s1.size := by rw [Array.length_toList]; rfl
    omega
  have size2 : s2.size ≤ 1048576 := by
    have e : s2.data.toList.length = s2.size := by rw [Array.length_toList]; rfl
    omega
  refine (walk s0 s1 s2 size0 size1 size2 W hT).mono fun e W' ⟨he, hg⟩ => ?_
  subst he
  exact ⟨_, rfl, post_of_below (pa := []) (pv := []) hW' (fun _ _ _ => trodAll_cons_mk (shut_bool Tryd.underlying4 _) trodAll_mk0) (fun _ _ => (trodAll_cons_mk (shut_string Tryd.underlying9 hm0) (trodAll_cons_mk (shut_string Tryd.underlying9 hm1) (trodAll_cons_mk (shut_string Tryd.underlying9 hm2) trodAll_mk0)))) (fun _ _ => rfl) rfl hg (ok_one (by kernel_rfl) rfl (okWide_bool_mk Tryd.underlying4 _))⟩

theorem witness_row (os : Os) {H : Type} (enc : TypeId × Value → H) :
    (Rows.OpenSpec.upto Rows.textTotalSpec).preRow enc Tryd.prog Tryd.f11 Rows.textTotalUptoRow.domain false Rows.textTotalUptoRow.laid ((laidWorld os).forCall (fun _ _ => 0) ⟨#[], #[.string .empty, .string .empty, .string .empty], []⟩).memory #[.string .empty, .string .empty, .string .empty] := by
  have hw : (DataW.whole enc Tryd.prog ((laidWorld os).forCall (fun _ _ => 0) ⟨#[], #[.string .empty, .string .empty, .string .empty], []⟩).memory Tryd.f11.params.toList Rows.textTotalSpec.vars false (#[.string .empty, .string .empty, .string .empty] : Array Value).toList 8).map (fun x => (x.1, x.2.1)) =
      some ([.lit (.string []), .lit (.string []), .lit (.string [])], []) := by kernel_rfl
  obtain ⟨⟨x1, x2, x3⟩, hx, hx1⟩ := Option.map_eq_some_iff.1 hw
  simp only [Prod.mk.injEq] at hx1
  obtain ⟨rfl, rfl⟩ := hx1
  exact OpenSpec.preRow_of_cond 8 hx (by kernel_rfl) (fun k hk => by cases hk; kernel_rfl) (by kernel_rfl) (laid_met os _)

set_option maxRecDepth 100000 in
theorem lifted (os : Os) (started : os.Started) (H : Type) (enc : TypeId × Value → H) (F : Stop.Interp) :
    ReturnsInHanded {} Tryd.checked os 11 .any ((Rows.OpenSpec.upto Rows.textTotalSpec).preRow enc Tryd.prog Tryd.f11 Rows.textTotalUptoRow.domain false Rows.textTotalUptoRow.laid) (((Rows.OpenSpec.upto Rows.textTotalSpec).at F).post enc Tryd.prog Tryd.f11 false true false false) := by
  refine returnsInHanded_of_row (C := Tryd.checked) (s := (Rows.OpenSpec.upto Rows.textTotalSpec)) own started (by kernel_rfl) Tryd.func11
    (witness_row_at (enc := enc) (C := Tryd.checked) false (laidWorld os) #[.string .empty, .string .empty, .string .empty] rfl (by kernel_rfl) (by kernel_rfl) (by kernel_rfl) (witness_row os enc)) ?_
  intro W base args ds gs before hval hW _ hcond _ hL hS _
  exact contract H enc W base args ds gs before hval hW (hcond _ rfl) (tabs_of hL hS)

theorem row : Rows.TextTotalUptoSaid :=
  OpenClaim.holds_of_cond 11 Tryd.f11 rfl rfl rfl rfl rfl rfl rfl ⟨rfl, rfl, rfl, rfl, rfl⟩ rfl rfl rfl rfl rfl (by kernel_rfl) Tryd.func11 (by kernel_rfl)
    (of_decide_eq_true (by kernel_rfl)) (by unfold Func.isWrapper; first | (rw [if_pos (by decide +kernel)]; kernel_rfl) | (rw [if_neg (by decide +kernel)]; exact ⟨rfl, rfl⟩))
    (fun os started H enc _ F => by rw [OpenClaim.pre_eq_preRow]; exact lifted os started H enc F)

theorem plain (f : FuncId) (fn : Func) (hf : Tryd.pinned.checked.prog.funcNamed Rows.textTotalUptoRow.func = some f) (hfn : Tryd.pinned.checked.prog.funcs[f]? = some fn) :
    false = Tryd.pinned.checked.prog.looks [] ∧ ∀ (j : Nat) t, fn.params[j]? = some t → Tryd.pinned.checked.prog.wantsStandIn t = false := by
  obtain rfl : f = 11 := Option.some.inj ((show Tryd.prog.funcNamed Rows.textTotalUptoRow.func = some 11 by kernel_rfl).symm.trans hf) |>.symm
  obtain rfl : fn = Tryd.f11 := (Option.some.inj (Tryd.func11.symm.trans hfn)).symm
  refine ⟨by kernel_rfl, fun j t ht => ?_⟩
  rw [Tryd.params11] at ht
  have hm : t ∈ [9, 9, 9] := by simpa using Array.mem_of_getElem? ht
  simp only [List.mem_cons, List.mem_nil_iff, or_false] at hm
  rcases hm with rfl | rfl | rfl
  · exact (show Tryd.prog.wantsStandIn 9 = false by kernel_rfl)
  · exact (show Tryd.prog.wantsStandIn 9 = false by kernel_rfl)
  · exact (show Tryd.prog.wantsStandIn 9 = false by kernel_rfl)

theorem proved : Rows.TextTotalUptoCardSaid :=
  Claim7.holds_tied_plain_at .later [] _ _ _ _ row (fun _ h => by cases h) (by kernel_rfl) (fun _ h => by cases h) textTotalUpto_row_tie rfl ⟨rfl, rfl⟩ (by kernel_rfl) rfl plain (by kernel_rfl)
end Go.Proofs.YthojhjimgfbcbaaDoor.textTotal
