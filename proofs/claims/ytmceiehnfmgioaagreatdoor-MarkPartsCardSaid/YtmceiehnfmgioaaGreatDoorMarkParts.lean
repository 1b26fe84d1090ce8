/- What is proved: MarkParts holds of every two texts: with a blank line between, Lex tells the tokens of the first, a TokPara, and those of the second with their lines counted on. Its condition: none but the statement's own. -/
import Derived.Test.YtmceiehnfmgioaaGreatDoorPts
import Derived.Test.YtmceiehnfmgioaaGreatDoorLns
import Derived.Test.YtmceiehnfmgioaaGreatDoorLl
import Derived.Test.YtmceiehnfmgioaaGreatDoorMawk
import Derived.Test.YtmceiehnfmgioaaGreatDoorPost
import Derived.Test.YtmceiehnfmgioaaGreatDoorMLft
import Derived.Test.YtmceiehnfmgioaaGreatDoorCards
import Derived.Test.YtmceiehnfmgioaaGreatDoorTie
import Derived.ProofKit
import Derived.OpenShut
import Derived.Deep.DeepHandedRow
import Derived.BigQuiet
import Derived.Deep.QuietTactic
namespace Go.Proofs.YtmceiehnfmgioaaGreatDoor.markParts
open Go.ChangeShapes Go.WideShapes Go.ChangeAt Go.RowKit
open Go.ChangeMaps (open_string shut_string)
set_option linter.unusedVariables false

set_option maxRecDepth 100000 in
set_option maxHeartbeats 4000000 in
theorem walk (s0 s1 : ByteArray) (W : World) {Q Q' : Prop} (hQ : Q) (hQ' : Q') (hT : Tabs W) :
    Calls Tryz.prog 5 #[.string s0, .string s1] W fun e W' => e = .returned (.bool true) ∧ Below W.heap.size W W' := by
  obtain ⟨i0, hi0, hz0, hz1, hz2⟩ := info_parts infoTok
  obtain ⟨a, rfl, ha⟩ := of_bs s0
  obtain ⟨b, rfl, hb0⟩ := of_bs s1
  have HA := Lib.hid (awake_law W hT)
  have HT := Lib.hid hT
  clear hT ha hb0 hQ hQ'
  go_enter Tryz.func5, Tryz.ntmps5
  go_wp2_with fail
  refine HA.out.mono ?_
  rintro e w1 ⟨rfl, hb⟩
  have HB := Lib.hid hb
  have HT1 := Lib.hid (HT.out.at hb)
  clear hb
  go_wp2_with fail
  refine (lex_pro a w1 HT1.out).mono ?_
  unfold LexPost
  cases hra : lexM a with
  | error x =>
    rintro e w2 ⟨ge, rfl, he, hx, hb⟩
    have HB2 := Lib.hid (HB.out.trans (hb.mono HB.out.size))
    have HT2 := Lib.hid (HT1.out.at hb)
    clear he hx hb hra
    unfold errAt
    go_wp2_with fail
    refine (lex_pro b w2 HT2.out).mono ?_
    unfold LexPost
    cases hrb : lexM b with
    | error x =>
      rintro e w3 ⟨ge, rfl, he, hx, hb⟩
      have HB3 := Lib.hid (HB2.out.trans (hb.mono HB2.out.size))
      clear he hx hb hrb
      unfold errAt
      go_wp2_with fail
      go_ret
      exact ⟨rfl, HB3.out⟩
    | ok ts =>
      rintro e w3 ⟨v, rfl, ht, hb⟩
      have HB3 := Lib.hid (HB2.out.trans (hb.mono HB2.out.size))
      clear ht hb hrb
      go_wp2_with fail
      go_ret
      exact ⟨rfl, HB3.out⟩
  | ok xs =>
    rintro e w2 ⟨vx, rfl, htx, hb⟩
    have HB2 := Lib.hid (HB.out.trans (hb.mono HB.out.size))
    have HT2 := Lib.hid (HT1.out.at hb)
    have HX2 := Lib.hid htx
    have RA := Lib.hid hra
    obtain ⟨na1, na2, na3, na4⟩ := lexM_len hra
    have NA := Lib.hid (And.intro na1 (And.intro na2 na3))
    clear htx hb hra na4
    go_wp2_with fail
    refine (lex_pro b w2 HT2.out).mono ?_
    unfold LexPost
    cases hrb : lexM b with
    | error x =>
      rintro e w3 ⟨ge, rfl, he, hx, hb⟩
      have HB3 := Lib.hid (HB2.out.trans (hb.mono HB2.out.size))
      clear he hx hb hrb
      unfold errAt
      go_wp2_with fail
      go_ret
      exact ⟨rfl, HB3.out⟩
    | ok ys =>
      rintro e w3 ⟨vy, rfl, hty, hb⟩
      have HB3 := Lib.hid (HB2.out.trans (hb.mono HB2.out.size))
      have HT3 := Lib.hid (HT2.out.at hb)
      have HX3 := Lib.hid (HX2.out.below hb)
      have HY3 := Lib.hid hty
      have RB := Lib.hid hrb
      obtain ⟨nb1, nb2, nb3, nb4⟩ := lexM_len hrb
      have NB := Lib.hid (And.intro nb1 (And.intro nb2 (And.intro nb3 nb4)))
      have za := bs_size a
      have zb := bs_size b
      have ta := toList_bs a
      clear hty hb hrb nb3 nb4 na3 nb1 na1
      by_cases a0 : a = []
      · subst a0
        go_wp2_with fail
        go_ret
        exact ⟨rfl, HB3.out⟩
      have hne : a.isEmpty = false := by cases a with | nil => exact absurd rfl a0 | cons x y => rfl
      have hpos : 0 < a.length := List.length_pos_iff.2 a0
      obtain ⟨j, hj⟩ : ∃ j, a.length = j + 1 := ⟨a.length - 1, by omega⟩
      obtain ⟨c, hc⟩ : ∃ c, a[j]? = some c := ⟨_, List.getElem?_eq_getElem (by omega)⟩
      have hix : ∀ hh, (bs a)[j]'hh = c := fun hh => by
        have h1 := List.getElem?_eq_some_iff.1 hc
        exact h1.2
      have hlast : a.getLast? = some c := by rw [List.getLast?_eq_getElem?, hj]; exact hc
      have HLA := Lib.hid hlast
      have A0 := Lib.hid a0
      have zj : wrap64 ((a.length : Int) - 1) = (j : Int) := by
        rw [IntWalk.wrap64_in _ (by omega)]; omega
      have zj1 : (a.length : Int) - 1 = (j : Int) := by omega
      have zj2 : (j : Int) < a.length := by omega
      have HJ := Lib.hid hj
      clear hc hlast a0 hj hpos
      by_cases c10 : c.toNat = 10
      · have t1 : ((c.toNat : Int) == 10) = true := u8_eq c10
        clear c10
        go_wp2_with fail
        go_ret
        exact ⟨rfl, HB3.out⟩
      have t1 : ((c.toNat : Int) == 10) = false := u8_ne c10
      have C10 := Lib.hid c10
      clear c10
      by_cases c13 : c.toNat = 13
      · have t2 : ((c.toNat : Int) == 13) = true := u8_eq c13
        clear c13
        go_wp2_with fail
        go_ret
        exact ⟨rfl, HB3.out⟩
      have t2 : ((c.toNat : Int) == 13) = false := u8_ne c13
      clear c13
      by_cases d1 : 65534 < a.length
      · have d2 : (65534 : Int) < a.length := by omega
        clear d1
        go_wp2_with fail
        go_ret
        exact ⟨rfl, HB3.out⟩
      have d2 : ¬ (65534 : Int) < a.length := by omega
      have zs : wrap64 (65534 - (a.length : Int)) = 65534 - (a.length : Int) := IntWalk.wrap64_in _ (by omega)
      have D1 := Lib.hid d1
      clear d1
      by_cases d3 : 65534 < a.length + b.length
      · have d4 : (65534 : Int) - (a.length : Int) < b.length := by omega
        clear d3
        go_wp2_with fail
        go_ret
        exact ⟨rfl, HB3.out⟩
      have d4 : ¬ (65534 : Int) - (a.length : Int) < b.length := by omega
      have D3 := Lib.hid d3
      have HZ := Lib.hid (lexM_parts RA.out RB.out A0.out (by rw [HLA.out]; intro e; injection e with e; have := C10.out; rw [e] at this; exact this rfl) (by omega))
      clear d3
      go_wp2_with fail
      refine (lines_ref a w3 (by have := NA.out; omega)).mono ?_
      rintro e w4 ⟨vl, rfl, hol, hb⟩
      obtain ⟨pl, cl, rfl⟩ := lenOf hol
      have HB4 := Lib.hid (HB3.out.trans (hb.mono HB3.out.size))
      have HT4 := Lib.hid (HT3.out.at hb)
      have HX4 := Lib.hid (HX3.out.below hb)
      have HY4 := Lib.hid (HY3.out.below hb)
      obtain ⟨n, hn⟩ : ∃ n, (lines a).length = n := ⟨_, rfl⟩
      rw [hn] at NA HZ ⊢
      have zn : wrap64 ((n : Int) + 1) = (n : Int) + 1 := IntWalk.wrap64_in _ (by have := NA.out; omega)
      clear hol hb hn t1 t2 d2 d4 zs zj zj1 zj2 hix ta hne
      have E1 := Lib.hid (World.ownsRow_lit (e := 40) (size := 5) (base := w4.heap.size) w4 #[] 0 (Nat.le_refl _) (Nat.zero_le _) rfl)
      have E1s := Lib.hid (show w4.heap.size ≤ (w4.alloc (.cells #[] 40)).heap.size by simp)
      obtain ⟨B4, hx4⟩ := HX4.out
      have HXO := Lib.hid hx4
      have M1 := Lib.hid (show 0 + xs.length ≤ maxLen by have := NA.out; unfold maxLen; omega)
      have M2 := Lib.hid (show (0 + xs.length) * 56 ≤ 140737488355328 by have := NA.out; omega)
      have M3 := Lib.hid (show 0 + xs.length + 1 ≤ maxLen by have := NA.out; unfold maxLen; omega)
      have M4 := Lib.hid (show (0 + xs.length + 1) * 56 ≤ 140737488355328 by have := NA.out; omega)
      clear hx4
      have AG := Lib.hid (show (Value.agg #[.int .i64 0, .string .empty, .string .empty, .int .i64 0, .int .i64 0]).cells.size = 5 from rfl)
      go_wp2_with (first | (at_builtin; refine wpList_append_row rfl _ _ 22 rfl w4.heap.size 40 i0 (.agg #[.int .i64 0, .string .empty, .string .empty, .int .i64 0, .int .i64 0]) 5 56 Tryz.underlying22 hi0 hz0 hz1 hz2 rfl (by decide) _ _ _ rfl E1.out B4 vx _ _ rfl (HXO.out.alloc _) (tokRows_one xs) M1.out M2.out E1s.out ?_; intro v5 w5 hown5 hg5; have HO5 := Lib.hid hown5; have SZ5 := Lib.hid (show w4.heap.size ≤ w5.heap.size by have h0 := hg5.size; have h1 : (w4.alloc (.cells #[] 40)).heap.size = w4.heap.size + 1 := World.size_alloc _ _; omega); have B5 := Lib.hid (((Below.refl w4.heap.size w4).alloc (Nat.le_refl _) _).grown hg5 E1s.out (fun k hk => (E1.out.lt k hk).1)); clear hown5 hg5) | (at_builtin; go_loud (refine wpList_append_own _ rfl _ _ 22 rfl w4.heap.size 40 i0 (.agg #[.int .i64 0, .string .empty, .string .empty, .int .i64 0, .int .i64 0]) 5 56 Tryz.underlying22 hi0 hz0 hz1 hz2 rfl (by decide) _ _ _ rfl (HO5.out.alloc _) ⟨w5.heap.size, 0, none⟩ 1 1 (tokRow ⟨2, [], [], n + 1, 1⟩) rfl rfl (cells_at rfl) (tokRow_one _) M3.out M4.out (by have := SZ5.out; simp; omega) ?_); intro v6 w6 hown6 hg6 _; have HO6 := Lib.hid hown6; have B6 := Lib.hid ((B5.out.alloc SZ5.out _).grown hg6 (by have := SZ5.out; simp; omega) (fun k hk => (HO5.out.lt k hk).1)); clear hown6 hg6))
      refine (moved_law' ys vy (n + 1) 0 _ _ (by omega) rfl w6 (HY4.out.below B6.out) (by have := NB.out.1; omega) (fun t ht => by have := NB.out.2.2.2 t ht; have := NA.out; omega) (by have := NA.out; omega) (Nat.zero_le _)).mono ?_
      rintro e w7 ⟨v7, rfl, ho7, hb7⟩
      have HO7 := Lib.hid ho7
      have HW7 := Lib.hid (own_below HO6.out hb7)
      have B7 := Lib.hid (B6.out.trans (hb7.mono B6.out.size))
      have M5 := Lib.hid (show 0 + xs.length + 1 + ys.length ≤ maxLen by have := NA.out; have := NB.out.1; unfold maxLen; omega)
      have M6 := Lib.hid (show (0 + xs.length + 1 + ys.length) * 56 ≤ 140737488355328 by have := NA.out; have := NB.out.1; omega)
      clear ho7 hb7
      dsimp only
      rename_i KB hKB
      refine hKB _ _ ?_
      go_wp2_with (at_builtin; go_loud (refine wpList_append_row rfl _ _ 22 rfl w4.heap.size 40 i0 (.agg #[.int .i64 0, .string .empty, .string .empty, .int .i64 0, .int .i64 0]) 5 56 Tryz.underlying22 hi0 hz0 hz1 hz2 rfl (by decide) _ _ _ rfl HW7.out w6.heap.size v7 _ _ (by rfl) HO7.out (tokRows_one _) M5.out M6.out B7.out.size ?_); intro v8 w8 hown8 hg8; have HO8 := Lib.hid hown8; have B8 := Lib.hid (B7.out.grown hg8 B7.out.size (fun k hk => (HW7.out.lt k hk).1)); clear hown8 hg8)
      have HT8 := Lib.hid (HT4.out.at B8.out)
      have HBB := Lib.hid (HB4.out.trans (B8.out.mono HB4.out.size))
      rw [show bs a ++ (⟨#[10, 10]⟩ : ByteArray) ++ bs b = bs (a ++ 10 :: 10 :: b) by
        rw [show (⟨#[10, 10]⟩ : ByteArray) = bs [10, 10] from rfl, bs_app, bs_app, List.append_assoc]; rfl]
      refine (lex_pro (a ++ 10 :: 10 :: b) w8 HT8.out).mono ?_
      unfold LexPost
      rw [HZ.out]
      rintro e w9 ⟨v9, rfl, ht9, hb⟩
      have HT9 := Lib.hid ht9
      have HB9 := Lib.hid (HBB.out.trans (hb.mono HBB.out.size))
      have HW9 := Lib.hid (show Toks w9 v8 (xs ++ [⟨2, [], [], n + 1, 1⟩] ++ ys.map (shT (· + (n + 1)))) from ⟨w4.heap.size, by
        have h := own_below HO8.out hb
        have e1 : (xs ++ [(⟨2, [], [], n + 1, 1⟩ : Tok)] ++ ys.map (shT (· + (n + 1)))).length = 0 + xs.length + 1 + ys.length := by simp; omega
        have e2 : tokRows (xs ++ [(⟨2, [], [], n + 1, 1⟩ : Tok)] ++ ys.map (shT (· + (n + 1)))) = [] ++ tokRows xs ++ tokRow ⟨2, [], [], n + 1, 1⟩ ++ tokRows (ys.map (shT (mvF 0 (n + 1)))) := by
          have e3 : mvF 0 (n + 1) = (· + (n + 1)) := by funext k; unfold mvF; rw [if_pos (Nat.zero_le _)]
          rw [e3, tokRows_app, tokRows_snoc]; rfl
        rw [e1, e2]
        exact h⟩)
      have ML := Lib.hid (show (xs ++ [(⟨2, [], [], n + 1, 1⟩ : Tok)] ++ ys.map (shT (· + (n + 1)))).length ≤ 540000000 by
        have h1 := (lexM_len HZ.out).1
        omega)
      clear ht9 hb
      go_wp2_with fail
      refine (same_ref _ v9 v8 w9 HT9.out HW9.out ML.out).mono ?_
      rintro e w10 ⟨rfl, hb⟩
      have HB10 := Lib.hid (HB9.out.trans (hb.mono HB9.out.size))
      clear hb
      go_wp2_with fail
      go_ret
      exact ⟨rfl, HB10.out⟩

set_option maxRecDepth 100000 in
theorem contract (H : Type) (enc : TypeId × Value → H) (W : World) (base : Nat) (args : Array Value) (ds gs : List (DataW H)) (before : List MemPlace)
    (hval : ∀ (j : Nat) t v, Tryz.f5.params[j]? = some t → args[j]? = some v → Value.okWide Tryz.prog W .any base t v)
    (hW : DataW.Whole enc Tryz.prog Tryz.f5.params.toList Rows.markPartsSpec.vars false W args.toList ds gs before) (hsz0 : (DataW.weightsEach Tryz.prog (Tryz.f5.params.toList ++ Rows.markPartsSpec.plain.varTypes Tryz.prog) (ds ++ gs)).all (· ≤ reachBytes) = true) (hT : Tabs W) :
    Calls Tryz.prog 5 args W fun e W' => ∃ v, e = .returned v ∧ Rows.markPartsSpec.post enc Tryz.prog Tryz.f5 false true false false W args v W' := by
  have hW' := hW
  obtain ⟨p, q, hA0, hV, rfl, hfz, hnd⟩ := hW
  have hA : DataW.TrodAll enc Tryz.prog W 0 (fun _ => true) true Tryz.f5.params.toList args.toList ds p := hA0
  rw [Tryz.params5] at hA hval
  have hsz := hsz0
  rw [Tryz.params5] at hsz
  clear hsz0
  obtain ⟨v0, vs0, d0, ds0, p0, q0, hargs, rfl, rfl, h0, r0⟩ := trodAll_cons hA
  obtain ⟨v1, vs1, d1, ds1, p1, q1, rfl, rfl, rfl, h1, r1⟩ := trodAll_cons r0
  obtain ⟨rfl, rfl, rfl⟩ := trodAll_nil r1
  obtain rfl : args = #[v0, v1] := by cases args; simp_all
  obtain ⟨rfl, rfl⟩ := trodVars_none hV
  obtain ⟨s0, rfl, rfl, rfl, hm0⟩ := open_string Tryz.underlying9 (hval 0 9 v0 rfl rfl) h0
  obtain ⟨s1, rfl, rfl, rfl, hm1⟩ := open_string Tryz.underlying9 (hval 1 9 v1 rfl rfl) h1
  clear hA0
  refine (walk s0 s1 W hm0 hm1 hT).mono fun e W' ⟨he, hg⟩ => ?_
  subst he
  have hlt := hW'.lt
  exact ⟨_, rfl, post_of_below (pa := ([] ++ ([] ++ []))) (pv := []) hW' (fun _ _ _ => trodAll_cons_mk (shut_bool Tryz.underlying4 _) trodAll_mk0) (fun sp hsp => (trodAll_cons_mk (shut_string Tryz.underlying9 hm0) (trodAll_cons_mk (shut_string Tryz.underlying9 hm1) trodAll_mk0))) (fun _ _ => rfl) rfl hg (ok_one (by kernel_rfl) rfl (okWide_bool_mk Tryz.underlying4 _))⟩

theorem witness_row (os : Os) {H : Type} (enc : TypeId × Value → H) :
    (OpenSpec.ofChange Rows.markPartsSpec).preRow enc Tryz.prog Tryz.f5 Rows.markPartsRow.domain false Rows.markPartsRow.laid ((laidWorld os).forCall (fun _ _ => 0) ⟨#[], #[.string .empty, .string .empty], []⟩).memory #[.string .empty, .string .empty] := by
  have hw : (DataW.whole enc Tryz.prog ((laidWorld os).forCall (fun _ _ => 0) ⟨#[], #[.string .empty, .string .empty], []⟩).memory Tryz.f5.params.toList Rows.markPartsSpec.vars false (#[.string .empty, .string .empty] : Array Value).toList 8).map (fun x => (x.1, x.2.1)) =
      some ([.lit (.string []), .lit (.string [])], []) := by kernel_rfl
  obtain ⟨⟨x1, x2, x3⟩, hx, hx1⟩ := Option.map_eq_some_iff.1 hw
  simp only [Prod.mk.injEq] at hx1
  obtain ⟨rfl, rfl⟩ := hx1
  exact OpenSpec.preRow_of_cond 8 hx (by kernel_rfl) (fun k hk => by cases hk) (by kernel_rfl) (laid_met os _)

set_option maxRecDepth 100000 in
theorem lifted (os : Os) (started : os.Started) (H : Type) (enc : TypeId × Value → H) (F : Stop.Interp) :
    ReturnsInHanded {} Tryz.checked os 5 .any ((OpenSpec.ofChange Rows.markPartsSpec).preRow enc Tryz.prog Tryz.f5 Rows.markPartsRow.domain false Rows.markPartsRow.laid) (((OpenSpec.ofChange Rows.markPartsSpec).at F).post enc Tryz.prog Tryz.f5 false true false false) := by
  refine returnsInHanded_of_row (C := Tryz.checked) (s := (OpenSpec.ofChange Rows.markPartsSpec)) own started (by kernel_rfl) Tryz.func5
    (witness_row_at (enc := enc) (C := Tryz.checked) false (laidWorld os) #[.string .empty, .string .empty] rfl (by kernel_rfl) (by kernel_rfl) (by kernel_rfl) (witness_row os enc)) ?_
  intro W base args ds gs before hval hW _ hcond hsz hL hS _
  exact contract H enc W base args ds gs before hval hW hsz (tabs_of hL hS)

set_option maxHeartbeats 16000000 in
theorem closed : joinedFacts Tryz.pinned.checked.prog 5 Tryz.f5 ((OpenSpec.ofChange Rows.markPartsSpec)).bare Rows.markPartsRow = true := by
  unfold joinedFacts
  repeat' (with_reducible refine Bool.and_eq_true_iff.2 ⟨?_, ?_⟩)
  all_goals (as_aux_lemma => kernel_rfl)
theorem named : Tryz.pinned.checked.prog.funcNamed Rows.markPartsRow.func = some 5 := by kernel_rfl
theorem inst : (Tryz.f5).isInstance Tryz.pinned.checked.prog Rows.markPartsRow.origin Rows.markPartsRow.targs := of_decide_eq_true (by kernel_rfl)
theorem wrap : (Tryz.f5).isWrapper Tryz.pinned.checked.prog Rows.markPartsRow.wrapper Rows.markPartsRow.mainSum := by
  unfold Func.isWrapper
  first | (rw [if_pos (by decide +kernel)]; kernel_rfl) | (rw [if_neg (by decide +kernel)]; exact ⟨rfl, rfl⟩)
theorem row : Rows.MarkPartsSaid :=
  OpenClaim.holds_of_cond 5 Tryz.f5 rfl rfl rfl rfl rfl rfl rfl ⟨rfl, rfl, rfl, rfl, rfl⟩ rfl rfl rfl rfl rfl named Tryz.func5 closed inst wrap
    (fun os started H enc _ F => by rw [OpenClaim.pre_eq_preRow]; exact lifted os started H enc F)

theorem plain (f : FuncId) (fn : Func) (hf : Tryz.pinned.checked.prog.funcNamed Rows.markPartsRow.func = some f) (hfn : Tryz.pinned.checked.prog.funcs[f]? = some fn) :
    true = Tryz.pinned.checked.prog.looks [] ∧ ∀ (j : Nat) t, fn.params[j]? = some t → Tryz.pinned.checked.prog.wantsStandIn t = false := by
  obtain rfl : f = 5 := Option.some.inj ((show Tryz.prog.funcNamed Rows.markPartsRow.func = some 5 by kernel_rfl).symm.trans hf) |>.symm
  obtain rfl : fn = Tryz.f5 := (Option.some.inj (Tryz.func5.symm.trans hfn)).symm
  refine ⟨by kernel_rfl, fun j t ht => ?_⟩
  rw [Tryz.params5] at ht
  have hm : t ∈ [9, 9] := by simpa using Array.mem_of_getElem? ht
  simp only [List.mem_cons, List.mem_nil_iff, or_false] at hm
  have hm1 : t = 9 := by first | exact hm | (rcases hm with h | h <;> exact h)
  subst hm1
  exact (show Tryz.prog.wantsStandIn 9 = false by kernel_rfl)

theorem proved : Rows.MarkPartsCardSaid :=
  Claim7.holds_tied_plain_at .later [] _ _ _ _ row (fun _ h => by cases h) (by kernel_rfl) (fun _ h => by cases h) markParts_row_tie rfl ⟨rfl, rfl⟩ (by kernel_rfl) rfl plain (by kernel_rfl)
end Go.Proofs.YtmceiehnfmgioaaGreatDoor.markParts
