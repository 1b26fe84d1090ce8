/- What is proved: OctetOne holds of any bytes and any two numbers: of each number there is one form; what Uint takes is what PutUint lays; unlike numbers don't begin alike. No condition but the form's own. -/
import Derived.Test.YtcgeldmbndaocaaDoorOAwake
import Derived.Test.YtcgeldmbndaocaaDoorUn
import Derived.Test.YtcgeldmbndaocaaDoorOBytes
import Derived.Test.YtcgeldmbndaocaaDoorPost
import Derived.Test.YtcgeldmbndaocaaDoorOLft
import Derived.Test.YtcgeldmbndaocaaDoorCards
import Derived.Test.YtcgeldmbndaocaaDoorTie
import Derived.ProofKit
import Derived.OpenShut
import Derived.Deep.DeepHandedRow
import Derived.WideKeyArgs
namespace Go.Proofs.YtcgeldmbndaocaaDoor.octetOne
open Go.ChangeShapes Go.WideShapes Go.ChangeAt Go.RowKit
open Go.ChangeMaps (open_string shut_string)
set_option linter.unusedVariables false

theorem uscan_split (l : List UInt8) : (∃ n k, uscan 0 0 l = (n, k, 0)) ∨ (uscan 0 0 l).2.2 ≠ 0 := by
  by_cases h : (uscan 0 0 l).2.2 = 0
  · exact .inl ⟨(uscan 0 0 l).1, (uscan 0 0 l).2.1, by rw [← h]⟩
  · exact .inr h

set_option maxRecDepth 100000 in
set_option maxHeartbeats 4000000 in
theorem walk (v : Value) (l : List UInt8) (x y : Int) (W : World) (hv : Rd W v l) (bl : l.length ≤ 140737488351232) (hx : (Lit.int .u64 x).wf = true) (hy : (Lit.int .u64 y).wf = true) (hT : Tabs W) :
    Calls Tryd.prog 6 #[v, .int .u64 x, .int .u64 y] W fun e W' => e = .returned (.bool true) ∧ Below W.heap.size W W' := by
  have HT := Lib.hid hT
  have RV := Lib.hid hv
  obtain ⟨a, rfl, ha⟩ : ∃ a : Nat, x = a ∧ a < 18446744073709551616 := by
    have : 0 ≤ x ∧ x ≤ 18446744073709551615 := by simpa [Lit.wf, IntKind.min, IntKind.max, IntKind.signed, IntKind.bits] using hx
    exact ⟨x.toNat, by omega, by omega⟩
  obtain ⟨b, rfl, hb⟩ : ∃ b : Nat, y = b ∧ b < 18446744073709551616 := by
    have : 0 ≤ y ∧ y ≤ 18446744073709551615 := by simpa [Lit.wf, IntKind.min, IntKind.max, IntKind.signed, IntKind.bits] using hy
    exact ⟨y.toNat, by omega, by omega⟩
  have FA := Lib.hid ha
  have FB := Lib.hid hb
  have L47 := Lib.hid (show l.length ≤ 140737488355328 by omega)
  have L48 := Lib.hid (show l.length ≤ 281474976710656 by omega)
  obtain ⟨pa, ca, rfl, ka, _⟩ := hv.form
  have lp := gr_len a
  have lq := gr_len b
  have AP := Lib.hid (show a ≠ b → gr a ≠ (gr b).take (gr a).length from fun h => gr_apart ha hb h)
  clear hT hv hx hy ha hb
  obtain ⟨P, eP⟩ : ∃ P, gr a = P := ⟨_, rfl⟩
  obtain ⟨Q, eQ⟩ : ∃ Q, gr b = Q := ⟨_, rfl⟩
  rw [eP] at lp AP
  rw [eQ] at lq AP
  have EP := Lib.hid eP
  have EQ := Lib.hid eQ
  clear eP eQ
  go_enter Tryd.func6, Tryd.ntmps6
  go_wp2_with fail
  refine (awake_law _ HT.out).mono ?_
  rintro e w1 ⟨rfl, hb1⟩
  have B1 := Lib.hid hb1
  have R1 := Lib.hid (RV.out.below hb1)
  clear hb1
  go_wp2_with fail
  refine (twin_pro l _ _ R1.out L47.out).mono ?_
  rintro e w2 ⟨v2, rfl, ho, hb⟩
  have O2 := Lib.hid (Rd.own ho)
  have R2 := Lib.hid (R1.out.below hb)
  have B2 := Lib.hid (B1.out.trans (hb.mono B1.out.size))
  clear ho hb
  go_wp2_with fail
  refine (new_pro l _ _ O2.out L48.out).mono ?_
  rintro e w3 ⟨g, rfl, hg, hc, hb⟩
  have GE := Lib.hid (Nat.le_trans B2.out.size hg)
  have C3 := Lib.hid hc
  have R3 := Lib.hid (R2.out.below hb)
  have B3 := Lib.hid (B2.out.trans (hb.mono B2.out.size))
  have AW := Lib.hid (show ∀ (p : Nat) (u : Int), Cur w3 g l p u → True from fun _ _ _ => trivial)
  clear hg hc hb
  go_wp2_with fail
  refine (uint_pro g l (0, 0) _ C3.out).mono ?_
  rintro e w4 ⟨rfl, hc, hgr⟩
  have C4 := Lib.hid hc
  have R4 := Lib.hid (rd_grown R3.out C3.out hgr)
  have B4 := Lib.hid (B3.out.grown hgr B3.out.size (fun k hk => by cases hk; exact GE.out))
  clear hc hgr
  rcases uscan_split l with ⟨n, k, hu⟩ | hu
  · have hbk := gr_back hu
    have hlong := uscan_long l 0 0 (by rw [hu])
    rw [hu] at hlong
    simp only at hlong
    have eU : uval l (0, 0) = n := by simp [uval, hu]
    have eS : ust l (0, 0) = (k, 0) := by simp [ust, hu]
    rw [eU]
    rw [eS] at C4
    have HN := Lib.hid hbk.2
    have HG := Lib.hid hbk.1
    have hmin : ∀ w : World, (Builtin.min_ #[3, 3] 3 #[.int .i64 (l.length : Int), .int .i64 (k : Int)]).run Tryd.prog w = .ok (.int .i64 (k : Int)) w := by
      intro w
      rw [run_min_int2]
      congr 2
      split <;> omega
    have hk1 : (k : Int) ≤ ca := by omega
    have RK := Lib.hid (show k ≤ l.length by omega)
    clear hbk hlong eU eS hu
    go_wp2_with fail
    refine (err_pro g l k 0 _ C4.out).mono ?_
    rintro e w5 ⟨rfl, rfl⟩
    go_wp2_with fail
    refine (putUint_pro [] _ n _ (Rd.nil _) (by decide) HN.out).mono ?_
    rintro e w5 ⟨v5, rfl, ho, hb⟩
    rw [List.nil_append] at ho
    have O5 := Lib.hid (Rd.own ho)
    have C5 := Lib.hid (C4.out.below hb)
    have R5 := Lib.hid (R4.out.below hb)
    have B5 := Lib.hid (B4.out.trans (hb.mono B4.out.size))
    obtain ⟨p5, c5, rfl, _⟩ := (Rd.own ho).form
    clear ho hb
    go_wp2_with fail
    refine (at_pro g l k 0 _ C5.out).mono ?_
    rintro e w6 ⟨rfl, rfl⟩
    go_wp2_with fail
    refine (same_pro (gr n) (l.take k) _ _ _ O5.out (rd_take R5.out RK.out)).mono ?_
    rw [HG.out, beq_self_eq_true]
    rintro e w6 ⟨rfl, rfl⟩
    clear hmin hk1
    go_wp2_with fail
    refine (putUint_pro [] _ a _ (Rd.nil _) (by decide) FA.out).mono ?_
    rintro e w7 ⟨v7, rfl, ho, hb⟩
    rw [List.nil_append, EP.out] at ho
    have O7 := Lib.hid (Rd.own ho)
    have B7 := Lib.hid (B5.out.trans (hb.mono B5.out.size))
    obtain ⟨p7, c7, rfl, _⟩ := (Rd.own ho).form
    clear ho hb
    go_wp2_with fail
    refine (putUint_pro [] _ b _ (Rd.nil _) (by decide) FB.out).mono ?_
    rintro e w8 ⟨v8, rfl, ho, hb⟩
    rw [List.nil_append, EQ.out] at ho
    have O8 := Lib.hid (Rd.own ho)
    have P8 := Lib.hid (O7.out.below hb)
    have B8 := Lib.hid (B7.out.trans (hb.mono B7.out.size))
    obtain ⟨p8, c8, rfl, k8, _⟩ := (Rd.own ho).form
    clear ho hb
    have q1 : ((P.length : Int) == 0) = false := by rw [beq_eq_false_iff_ne]; omega
    have q2 : ((Q.length : Int) == 0) = false := by rw [beq_eq_false_iff_ne]; omega
    by_cases hab : a = b
    · have q3 : ((a : Int) == b) = true := by simp; omega
      clear hab
      go_wp2_with fail
      go_ret
      exact ⟨rfl, B8.out⟩
    · have q3 : ((a : Int) == b) = false := by simp; omega
      by_cases hlen : Q.length < P.length
      · have q4 : (Q.length : Int) < P.length := by omega
        clear hab hlen
        go_wp2_with fail
        go_ret
        exact ⟨rfl, B8.out⟩
      · have q4 : ¬ (Q.length : Int) < P.length := by omega
        have q5 : (P.length : Int) ≤ c8 := by omega
        have hne := AP.out hab
        have NE := Lib.hid (show (P == Q.take P.length) = false by simpa using hne)
        have RK8 := Lib.hid (show P.length ≤ Q.length by omega)
        clear hab hlen hne
        go_wp2_with fail
        refine (same_pro P (Q.take P.length) _ _ _ P8.out (rd_take O8.out RK8.out)).mono ?_
        rw [NE.out]
        rintro e w9 ⟨rfl, rfl⟩
        go_wp2_with fail
        go_ret
        exact ⟨rfl, B8.out⟩
  · have hne : (uscan 0 0 l).2.2 ≠ 0 := hu
    obtain ⟨u, eu⟩ : ∃ u, (uscan 0 0 l).2.2 = u := ⟨_, rfl⟩
    have eS : ust l (0, 0) = (0, u) := by unfold ust; rw [if_neg (by simp)]; simp only [List.drop_zero]; rw [if_pos hu, eu]
    obtain ⟨N, eN⟩ : ∃ N, uval l (0, 0) = N := ⟨_, rfl⟩
    rw [eS] at C4
    rw [eu] at hne
    rw [eN]
    have B5 := B4
    have t0 : (u == 0) = false := by simpa using hne
    clear hu hne eu eS eN
    go_wp2_with fail
    refine (err_pro g l 0 u _ C4.out).mono ?_
    rintro e w5 ⟨rfl, rfl⟩
    go_wp2_with fail
    refine (putUint_pro [] _ a _ (Rd.nil _) (by decide) FA.out).mono ?_
    rintro e w7 ⟨v7, rfl, ho, hb⟩
    rw [List.nil_append, EP.out] at ho
    have O7 := Lib.hid (Rd.own ho)
    have B7 := Lib.hid (B5.out.trans (hb.mono B5.out.size))
    obtain ⟨p7, c7, rfl, _⟩ := (Rd.own ho).form
    clear ho hb
    go_wp2_with fail
    refine (putUint_pro [] _ b _ (Rd.nil _) (by decide) FB.out).mono ?_
    rintro e w8 ⟨v8, rfl, ho, hb⟩
    rw [List.nil_append, EQ.out] at ho
    have O8 := Lib.hid (Rd.own ho)
    have P8 := Lib.hid (O7.out.below hb)
    have B8 := Lib.hid (B7.out.trans (hb.mono B7.out.size))
    obtain ⟨p8, c8, rfl, k8, _⟩ := (Rd.own ho).form
    clear ho hb
    have q1 : ((P.length : Int) == 0) = false := by rw [beq_eq_false_iff_ne]; omega
    have q2 : ((Q.length : Int) == 0) = false := by rw [beq_eq_false_iff_ne]; omega
    by_cases hab : a = b
    · have q3 : ((a : Int) == b) = true := by simp; omega
      clear hab
      go_wp2_with fail
      go_ret
      exact ⟨rfl, B8.out⟩
    · have q3 : ((a : Int) == b) = false := by simp; omega
      by_cases hlen : Q.length < P.length
      · have q4 : (Q.length : Int) < P.length := by omega
        clear hab hlen
        go_wp2_with fail
        go_ret
        exact ⟨rfl, B8.out⟩
      · have q4 : ¬ (Q.length : Int) < P.length := by omega
        have q5 : (P.length : Int) ≤ c8 := by omega
        have hne := AP.out hab
        have NE := Lib.hid (show (P == Q.take P.length) = false by simpa using hne)
        have RK8 := Lib.hid (show P.length ≤ Q.length by omega)
        clear hab hlen hne
        go_wp2_with fail
        refine (same_pro P (Q.take P.length) _ _ _ P8.out (rd_take O8.out RK8.out)).mono ?_
        rw [NE.out]
        rintro e w9 ⟨rfl, rfl⟩
        go_wp2_with fail
        go_ret
        exact ⟨rfl, B8.out⟩

set_option maxRecDepth 100000 in
theorem contract (H : Type) (enc : TypeId × Value → H) (W : World) (base : Nat) (args : Array Value) (ds gs : List (DataW H)) (before : List MemPlace)
    (hval : ∀ (j : Nat) t v, Tryd.f6.params[j]? = some t → args[j]? = some v → Value.okWide Tryd.prog W .any base t v)
    (hW : DataW.Whole enc Tryd.prog Tryd.f6.params.toList Rows.octetOneSpec.vars false W args.toList ds gs before) (hsz0 : (DataW.weightsEach Tryd.prog (Tryd.f6.params.toList ++ Rows.octetOneSpec.plain.varTypes Tryd.prog) (ds ++ gs)).all (· ≤ reachBytes) = true) (hT : Tabs W) :
    Calls Tryd.prog 6 args W fun e W' => ∃ v, e = .returned v ∧ Rows.octetOneSpec.post enc Tryd.prog Tryd.f6 false true false false W args v W' := by
  have hW' := hW
  obtain ⟨p, q, hA0, hV, rfl, hfz, hnd⟩ := hW
  have hA : DataW.TrodAll enc Tryd.prog W 0 (fun _ => true) true Tryd.f6.params.toList args.toList ds p := hA0
  rw [Tryd.params6] at hA hval
  have hsz := hsz0
  rw [Tryd.params6] at hsz
  clear hsz0
  obtain ⟨v0, vs0, d0, ds0, p0, q0, hargs, rfl, rfl, h0, r0⟩ := trodAll_cons hA
  obtain ⟨v1, vs1, d1, ds1, p1, q1, rfl, rfl, rfl, h1, r1⟩ := trodAll_cons r0
  obtain ⟨v2, vs2, d2, ds2, p2, q2, rfl, rfl, rfl, h2, r2⟩ := trodAll_cons r1
  obtain ⟨rfl, rfl, rfl⟩ := trodAll_nil r2
  obtain rfl : args = #[v0, v1, v2] := by cases args; simp_all
  obtain ⟨rfl, rfl⟩ := trodVars_none hV
  have hk0 := h0
  obtain ⟨l0, hR0, hD0⟩ := bytes_read h0 (okWide_slice Tryd.underlying22 (hval 0 22 v0 rfl rfl))
  obtain ⟨a1, rfl, rfl, rfl, w1⟩ := open_int Tryd.underlying23 (hval 1 23 v1 rfl rfl) h1
  obtain ⟨a2, rfl, rfl, rfl, w2⟩ := open_int Tryd.underlying23 (hval 2 23 v2 rfl rfl) h2
  clear hA0
  have size0 : l0.length ≤ 140737488351232 := bytes_reach hsz (j := 0) rfl rfl hD0
  refine (walk v0 l0 a1 a2 W hR0 size0 w1 w2 hT).mono fun e W' ⟨he, hg⟩ => ?_
  subst he
  have hlt := hW'.lt
  exact ⟨_, rfl, post_of_below (pa := (p0 ++ ([] ++ ([] ++ [])))) (pv := []) hW' (fun _ _ _ => trodAll_cons_mk (shut_bool Tryd.underlying4 _) trodAll_mk0) (fun sp hsp => (trodAll_cons_mk (Go.WideElems.Trod_stays (by kernel_rfl) (by kernel_rfl) (of_decide_eq_true (by kernel_rfl)) hk0 (fun p hp => hg.same (hlt p (by simp [hp]))) (fun p hp => hsp p (by simp [hp]))) (trodAll_cons_mk (shut_int Tryd.underlying23 w1) (trodAll_cons_mk (shut_int Tryd.underlying23 w2) trodAll_mk0)))) (fun _ _ => rfl) rfl hg (ok_one (by kernel_rfl) rfl (okWide_bool_mk Tryd.underlying4 _))⟩

theorem witness_row (os : Os) {H : Type} (enc : TypeId × Value → H) :
    (OpenSpec.ofChange Rows.octetOneSpec).preRow enc Tryd.prog Tryd.f6 Rows.octetOneRow.domain false Rows.octetOneRow.laid ((laidWorld os).forCall (fun _ _ => 0) ⟨#[], #[.slice none 0 0, .int .u64 0, .int .u64 0], []⟩).memory #[.slice none 0 0, .int .u64 0, .int .u64 0] := by
  have hw : (DataW.whole enc Tryd.prog ((laidWorld os).forCall (fun _ _ => 0) ⟨#[], #[.slice none 0 0, .int .u64 0, .int .u64 0], []⟩).memory Tryd.f6.params.toList Rows.octetOneSpec.vars false (#[.slice none 0 0, .int .u64 0, .int .u64 0] : Array Value).toList 8).map (fun x => (x.1, x.2.1)) =
      some ([.nil, .lit (.int .u64 0), .lit (.int .u64 0)], []) := by kernel_rfl
  obtain ⟨⟨x1, x2, x3⟩, hx, hx1⟩ := Option.map_eq_some_iff.1 hw
  simp only [Prod.mk.injEq] at hx1
  obtain ⟨rfl, rfl⟩ := hx1
  exact OpenSpec.preRow_of_cond 8 hx (by kernel_rfl) (fun k hk => by cases hk) (by kernel_rfl) (laid_met os _)

set_option maxRecDepth 100000 in
theorem lifted (os : Os) (started : os.Started) (H : Type) (enc : TypeId × Value → H) (F : Stop.Interp) :
    ReturnsInHanded {} Tryd.checked os 6 .any ((OpenSpec.ofChange Rows.octetOneSpec).preRow enc Tryd.prog Tryd.f6 Rows.octetOneRow.domain false Rows.octetOneRow.laid) (((OpenSpec.ofChange Rows.octetOneSpec).at F).post enc Tryd.prog Tryd.f6 false true false false) := by
  refine returnsInHanded_of_row (C := Tryd.checked) (s := (OpenSpec.ofChange Rows.octetOneSpec)) own started (by kernel_rfl) Tryd.func6
    (witness_row_at (enc := enc) (C := Tryd.checked) false (laidWorld os) #[.slice none 0 0, .int .u64 0, .int .u64 0] rfl (by kernel_rfl) (by kernel_rfl) (by kernel_rfl) (witness_row os enc)) ?_
  intro W base args ds gs before hval hW _ hcond hsz hL hS _
  exact contract H enc W base args ds gs before hval hW hsz (tabs_of hL)

theorem row : Rows.OctetOneSaid :=
  OpenClaim.holds_of_cond 6 Tryd.f6 rfl rfl rfl rfl rfl rfl rfl ⟨rfl, rfl, rfl, rfl, rfl⟩ rfl rfl rfl rfl rfl (by kernel_rfl) Tryd.func6 (by kernel_rfl)
    (of_decide_eq_true (by kernel_rfl)) (by unfold Func.isWrapper; first | (rw [if_pos (by decide +kernel)]; kernel_rfl) | (rw [if_neg (by decide +kernel)]; exact ⟨rfl, rfl⟩))
    (fun os started H enc _ F => by rw [OpenClaim.pre_eq_preRow]; exact lifted os started H enc F)

theorem plain (f : FuncId) (fn : Func) (hf : Tryd.pinned.checked.prog.funcNamed Rows.octetOneRow.func = some f) (hfn : Tryd.pinned.checked.prog.funcs[f]? = some fn) :
    false = Tryd.pinned.checked.prog.looks [] ∧ ∀ (j : Nat) t, fn.params[j]? = some t → Tryd.pinned.checked.prog.wantsStandIn t = false := by
  obtain rfl : f = 6 := Option.some.inj ((show Tryd.prog.funcNamed Rows.octetOneRow.func = some 6 by kernel_rfl).symm.trans hf) |>.symm
  obtain rfl : fn = Tryd.f6 := (Option.some.inj (Tryd.func6.symm.trans hfn)).symm
  refine ⟨by kernel_rfl, fun j t ht => ?_⟩
  rw [Tryd.params6] at ht
  have hm : t ∈ [22, 23, 23] := by simpa using Array.mem_of_getElem? ht
  simp only [List.mem_cons, List.mem_nil_iff, or_false] at hm
  rcases hm with rfl | rfl | rfl
  · exact (show Tryd.prog.wantsStandIn 22 = false by kernel_rfl)
  · exact (show Tryd.prog.wantsStandIn 23 = false by kernel_rfl)
  · exact (show Tryd.prog.wantsStandIn 23 = false by kernel_rfl)

theorem proved : Rows.OctetOneCardSaid :=
  Claim7.holds_tied_plain_at .later [] _ _ _ _ row (fun _ h => by cases h) (by kernel_rfl) (fun _ h => by cases h) octetOne_row_tie rfl ⟨rfl, rfl⟩ (by kernel_rfl) rfl plain (by kernel_rfl)
end Go.Proofs.YtcgeldmbndaocaaDoor.octetOne
