/- What is proved: TocWays holds of any contents, any topic and any that are open: the ways on, back, up and down, and what is to be seen, are what the document says. -/
import Derived.Test.YtjnnkelbedmccaaTop
import Derived.Test.YtjnnkelbedmccaaToq
import Derived.Test.YtjnnkelbedmccaaPost
import Derived.ProofKit
import Derived.OpenShut
import Derived.Deep.DeepHandedRow
namespace Go.Proofs.Ytjnnkelbedmccaa
open Go.ChangeShapes Go.WideShapes Go.ChangeAt Go.RowKit
open Go.ChangeMaps (open_string shut_string)
set_option linter.unusedVariables false
theorem path_len (l : List Ent) (x : Int) : (if (entE l x).2 = 0 then pathM l (atF l x) else []).length ≤ 1000000 := by
  by_cases h : (entE l x).2 = 0
  · rw [if_pos h]
    obtain ⟨g, _, i, hi, _, ha, _⟩ := ent_ok h
    have := way_len g hi
    unfold pathM
    rw [ha, List.length_map]
    omega
  · rw [if_neg h]; simp
theorem shown_len (l : List Ent) (op : Int → Bool) : (if gdE l = 0 then natZ (shownM l op) else []).length ≤ 1000000 := by
  by_cases h : gdE l = 0
  · rw [if_pos h, natZ_len]
    have := filter_len (fun k => see l op k) l.length
    have := (gd_of h).len
    unfold shownM
    omega
  · rw [if_neg h]; simp
namespace tocWays
set_option maxRecDepth 100000 in
set_option maxHeartbeats 16000000 in
theorem walk (v : Value) (l : List Ent) (x : Int) (vo : Value) (os : List Int) (W : World) (hs : RdE W v l) (hsz : l.length * 16 ≤ 140737488351232) (hx : (Lit.int .i64 x).wf = true) (ho : RdZ W vo os ∧ ∀ y ∈ os, (Lit.int .i64 y).wf = true) (hos : os.length * 8 ≤ 140737488351232) :
    Calls Try.prog 5 #[v, .int .i64 x, vo] W fun e W' => e = .returned (.bool true) ∧ Below W.heap.size W W' := by
  obtain ⟨pl, cl, rfl, hcl, hcm⟩ := hs.form
  obtain ⟨po, co, rfl, hcl2, hcm2⟩ := ho.1.form
  have HL := Lib.hid hs
  have HO := Lib.hid ho.1
  have HOW := Lib.hid ho.2
  have HLN := Lib.hid (show l.length * 16 ≤ 140737488355328 by omega)
  have HON := Lib.hid (show os.length * 8 ≤ 140737488355328 by omega)
  have HB := Lib.hid (Below.refl W.heap.size W)
  clear hs hsz hx hcl hcm ho hos hcl2 hcm2
  go_enter Try.func5, Try.ntmps5
  go_wp2_with fail
  refine (twin_pro l _ _ HL.out HLN.out).mono ?_
  rintro e w1a ⟨v1, rfl, hR, hb⟩
  have HR := Lib.hid hR
  have HBa := Lib.hid (HB.out.trans (hb.mono HB.out.size))
  have HLa := Lib.hid (HL.out.below hb)
  have HOa := Lib.hid (HO.out.below hb)
  clear HB HL HO hR hb
  obtain ⟨⟨p1, q1⟩, hp⟩ : ∃ p, besE l x 1 = p := ⟨_, rfl⟩
  have HP := Lib.hid hp
  have HQ := Lib.hid (next_pro l v1 x w1a HR.out)
  clear hp
  go_wp2_with fail
  refine HQ.out.mono ?_
  unfold TwoIs
  rw [HP.out]
  rintro e w1b ⟨rfl, hb⟩
  have HBb := Lib.hid (HBa.out.trans (hb.mono HBa.out.size))
  have HLb := Lib.hid (HLa.out.below hb)
  have HOb := Lib.hid (HOa.out.below hb)
  have HD := Lib.hid (dnext_ref l (.slice pl l.length cl) x w1b HLb.out)
  clear hb HQ HR HBa HLa HOa
  go_wp2_with fail
  refine HD.out.mono ?_
  unfold TwoIs
  rw [HP.out]
  rintro e w1c ⟨rfl, hb⟩
  have HB := Lib.hid (HBb.out.trans (hb.mono HBb.out.size))
  have HL := Lib.hid (HLb.out.below hb)
  have HO := Lib.hid (HOb.out.below hb)
  have t1 : (p1 != p1) = false := by simp
  have s1 : (q1 != q1) = false := by simp
  clear hb HD HP HBb HLb HOb
  go_wp2_with fail
  refine (awake_law _).mono ?_
  rintro e wz ⟨rfl, hb⟩
  have HB9 := Lib.hid (HB.out.trans (hb.mono HB.out.size))
  have HL9 := Lib.hid (HL.out.below hb)
  have HO9 := Lib.hid (HO.out.below hb)
  clear hb HB HL HO t1 s1
  have HB := HB9
  have HL := HL9
  have HO := HO9
  clear HB9 HL9 HO9
  go_wp2_with fail
  refine (twin_pro l _ _ HL.out HLN.out).mono ?_
  rintro e w2a ⟨v2, rfl, hR, hb⟩
  have HR := Lib.hid hR
  have HBa := Lib.hid (HB.out.trans (hb.mono HB.out.size))
  have HLa := Lib.hid (HL.out.below hb)
  have HOa := Lib.hid (HO.out.below hb)
  clear HB HL HO hR hb
  obtain ⟨⟨p2, q2⟩, hp⟩ : ∃ p, besE l x (-1) = p := ⟨_, rfl⟩
  have HP := Lib.hid hp
  have HQ := Lib.hid (prev_pro l v2 x w2a HR.out)
  clear hp
  go_wp2_with fail
  refine HQ.out.mono ?_
  unfold TwoIs
  rw [HP.out]
  rintro e w2b ⟨rfl, hb⟩
  have HBb := Lib.hid (HBa.out.trans (hb.mono HBa.out.size))
  have HLb := Lib.hid (HLa.out.below hb)
  have HOb := Lib.hid (HOa.out.below hb)
  have HD := Lib.hid (dprev_ref l (.slice pl l.length cl) x w2b HLb.out)
  clear hb HQ HR HBa HLa HOa
  go_wp2_with fail
  refine HD.out.mono ?_
  unfold TwoIs
  rw [HP.out]
  rintro e w2c ⟨rfl, hb⟩
  have HB := Lib.hid (HBb.out.trans (hb.mono HBb.out.size))
  have HL := Lib.hid (HLb.out.below hb)
  have HO := Lib.hid (HOb.out.below hb)
  have t2 : (p2 != p2) = false := by simp
  have s2 : (q2 != q2) = false := by simp
  clear hb HD HP HBb HLb HOb
  go_wp2_with fail
  refine (twin_pro l _ _ HL.out HLN.out).mono ?_
  rintro e w3a ⟨v3, rfl, hR, hb⟩
  have HR := Lib.hid hR
  have HBa := Lib.hid (HB.out.trans (hb.mono HB.out.size))
  have HLa := Lib.hid (HL.out.below hb)
  have HOa := Lib.hid (HO.out.below hb)
  clear HB HL HO hR hb
  obtain ⟨⟨p3, q3⟩, hp⟩ : ∃ p, upE l x = p := ⟨_, rfl⟩
  have HP := Lib.hid hp
  have HQ := Lib.hid (up_pro l v3 x w3a HR.out)
  clear hp
  go_wp2_with fail
  refine HQ.out.mono ?_
  unfold TwoIs
  rw [HP.out]
  rintro e w3b ⟨rfl, hb⟩
  have HBb := Lib.hid (HBa.out.trans (hb.mono HBa.out.size))
  have HLb := Lib.hid (HLa.out.below hb)
  have HOb := Lib.hid (HOa.out.below hb)
  have HD := Lib.hid (dup_ref l (.slice pl l.length cl) x w3b HLb.out)
  clear hb HQ HR HBa HLa HOa
  go_wp2_with fail
  refine HD.out.mono ?_
  unfold TwoIs
  rw [HP.out]
  rintro e w3c ⟨rfl, hb⟩
  have HB := Lib.hid (HBb.out.trans (hb.mono HBb.out.size))
  have HL := Lib.hid (HLb.out.below hb)
  have HO := Lib.hid (HOb.out.below hb)
  have t3 : (p3 != p3) = false := by simp
  have s3 : (q3 != q3) = false := by simp
  clear hb HD HP HBb HLb HOb
  go_wp2_with fail
  refine (twin_pro l _ _ HL.out HLN.out).mono ?_
  rintro e w4a ⟨v4, rfl, hR, hb⟩
  have HR := Lib.hid hR
  have HBa := Lib.hid (HB.out.trans (hb.mono HB.out.size))
  have HLa := Lib.hid (HL.out.below hb)
  have HOa := Lib.hid (HO.out.below hb)
  clear HB HL HO hR hb
  have HQ := Lib.hid (path_pro l v4 x w4a HR.out)
  go_wp2_with fail
  refine HQ.out.mono ?_
  rintro e w4b ⟨vk, rfl, ho, hb⟩
  have HBb := Lib.hid (HBa.out.trans (hb.mono HBa.out.size))
  have HLb := Lib.hid (HLa.out.below hb)
  have HOb := Lib.hid (HOa.out.below hb)
  have HK := Lib.hid (RdZ.own ho rfl)
  have HD := Lib.hid (dpath_ref l (.slice pl l.length cl) x w4b HLb.out)
  clear ho hb HQ
  go_wp2_with fail
  refine HD.out.mono ?_
  rintro e w4c ⟨vd, rfl, ho, hb⟩
  have HBc := Lib.hid (HBb.out.trans (hb.mono HBb.out.size))
  have HLc := Lib.hid (HLb.out.below hb)
  have HOc := Lib.hid (HOb.out.below hb)
  have HI := Lib.hid (ints_pro (if (entE l x).2 = 0 then pathM l (atF l x) else []) vk vd w4c (HK.out.below hb) (RdZ.own ho rfl) (path_len l x))
  obtain ⟨q4, hq⟩ : ∃ q, (entE l x).2 = q := ⟨_, rfl⟩
  have t4 : (q4 == q4) = true := by simp
  have s4 : (q4 != q4) = false := by simp
  rw [hq]
  clear ho hb HD HBb HLb HOb HK hq
  go_wp2_with fail
  refine HI.out.mono ?_
  rintro e w4d ⟨rfl, hb⟩
  have HB := Lib.hid (HBc.out.trans (hb.mono HBc.out.size))
  have HL := Lib.hid (HLc.out.below hb)
  have HO := Lib.hid (HOc.out.below hb)
  clear hb HI HBc HLc HOc
  clear HR HBa HLa HOa
  go_wp2_with fail
  refine (twin_pro l _ _ HL.out HLN.out).mono ?_
  rintro e w5a ⟨v5, rfl, hR, hb⟩
  have HR := Lib.hid hR
  have HBa := Lib.hid (HB.out.trans (hb.mono HB.out.size))
  have HLa := Lib.hid (HL.out.below hb)
  have HOa := Lib.hid (HO.out.below hb)
  clear HB HL HO hR hb
  have hA : Below w5a.heap.size w5a (w5a.alloc (.cells #[] 3)) := (Below.refl _ _).alloc (Nat.le_refl _) _
  obtain ⟨vt, w8, hr, hot, hb⟩ := run_twinZ (w5a.alloc (.cells #[] 3)) 28 os [] (.slice po os.length co) (.slice (some ⟨w5a.heap.size, 0, none⟩) 0 0) (HOa.out.below hA) (by have := HON.out; simpa using this) w5a.heap.size ⟨rfl, .inr ⟨w5a.heap.size, 0, #[], rfl, Nat.le_refl _, World.alloc_heap_new w5a _, Nat.le_refl _, Nat.zero_le _, rfl, rfl⟩⟩ (by simp)
  have hb8 := hA.trans hb
  have HAP := Lib.hid hr
  have HOT := Lib.hid (show RdZ w8 vt os from RdZ.own (by simpa using hot) (by simp))
  have HR8 := Lib.hid (HR.out.below hb8)
  have HB8 := Lib.hid (HBa.out.trans (hb8.mono HBa.out.size))
  have HL8 := Lib.hid (HLa.out.below hb8)
  have HO8 := Lib.hid (HOa.out.below hb8)
  clear hA hr hot hb hb8 HR HBa HLa HOa
  have HQ := Lib.hid (shown_pro l v5 vt os w8 HR8.out HOT.out HOW.out)
  go_wp2_with (at_builtin; go_loud (refine wpList_app2 rfl _ _ _ rfl rfl rfl HAP.out ?_))
  refine HQ.out.mono ?_
  rintro e w5b ⟨vk, rfl, ho, hb⟩
  have HBb := Lib.hid (HB8.out.trans (hb.mono HB8.out.size))
  have HLb := Lib.hid (HL8.out.below hb)
  have HOb := Lib.hid (HO8.out.below hb)
  have HK := Lib.hid (RdZ.own ho rfl)
  have HD := Lib.hid (dshown_ref l (.slice pl l.length cl) (.slice po os.length co) os w5b HLb.out HOb.out)
  clear ho hb HQ
  go_wp2_with fail
  refine HD.out.mono ?_
  rintro e w5c ⟨vd, rfl, ho, hb⟩
  have HBc := Lib.hid (HBb.out.trans (hb.mono HBb.out.size))
  have HLc := Lib.hid (HLb.out.below hb)
  have HOc := Lib.hid (HOb.out.below hb)
  have HI := Lib.hid (ints_pro (if gdE l = 0 then natZ (shownM l (fun x => decide (x ∈ os))) else []) vk vd w5c (HK.out.below hb) (RdZ.own ho rfl) (shown_len l _))
  obtain ⟨q5, hq⟩ : ∃ q, gdE l = q := ⟨_, rfl⟩
  have t5 : (q5 == q5) = true := by simp
  have s5 : (q5 != q5) = false := by simp
  rw [hq]
  clear ho hb HD HBb HLb HOb HK hq
  go_wp2_with fail
  refine HI.out.mono ?_
  rintro e w5d ⟨rfl, hb⟩
  have HB := Lib.hid (HBc.out.trans (hb.mono HBc.out.size))
  have HL := Lib.hid (HLc.out.below hb)
  have HO := Lib.hid (HOc.out.below hb)
  clear hb HI HBc HLc HOc
  go_wp2_with fail
  go_ret
  exact ⟨rfl, HB.out⟩

set_option maxRecDepth 100000 in
theorem contract (H : Type) (enc : TypeId × Value → H) (W : World) (base : Nat) (args : Array Value) (ds gs : List (DataW H)) (before : List MemPlace)
    (hval : ∀ (j : Nat) t v, Try.f5.params[j]? = some t → args[j]? = some v → Value.okWide Try.prog W .any base t v)
    (hW : DataW.Whole enc Try.prog Try.f5.params.toList Rows.tocWaysSpec.vars false W args.toList ds gs before) (hsz0 : (DataW.weightsEach Try.prog (Try.f5.params.toList ++ Rows.tocWaysSpec.plain.varTypes Try.prog) (ds ++ gs)).all (· ≤ reachBytes) = true) :
    Calls Try.prog 5 args W fun e W' => ∃ v, e = .returned v ∧ Rows.tocWaysSpec.post enc Try.prog Try.f5 false true false false W args v W' := by
  have hW' := hW
  obtain ⟨p, q, hA0, hV, rfl, hfz, hnd⟩ := hW
  have hA : DataW.TrodAll enc Try.prog W 0 (fun _ => true) true Try.f5.params.toList args.toList ds p := hA0
  rw [Try.params5] at hA hval
  have hsz := hsz0
  rw [Try.params5] at hsz
  clear hsz0
  obtain ⟨v0, vs0, d0, ds0, p0, q0, hargs, rfl, rfl, h0, r0⟩ := trodAll_cons hA
  obtain ⟨v1, vs1, d1, ds1, p1, q1, rfl, rfl, rfl, h1, r1⟩ := trodAll_cons r0
  obtain ⟨v2, vs2, d2, ds2, p2, q2, rfl, rfl, rfl, h2, r2⟩ := trodAll_cons r1
  obtain ⟨rfl, rfl, rfl⟩ := trodAll_nil r2
  obtain rfl : args = #[v0, v1, v2] := by cases args; simp_all
  obtain ⟨rfl, rfl⟩ := trodVars_none hV
  have hk0 := h0
  obtain ⟨l0, hR0, hD0⟩ := ents_read h0 (okWide_slice Try.underlying34 (hval 0 34 v0 rfl rfl))
  obtain ⟨a1, rfl, rfl, rfl, w1⟩ := open_int Try.underlying3 (hval 1 3 v1 rfl rfl) h1
  have hk2 := h2
  obtain ⟨l2, hR2, hD2⟩ := ints_read h2 (okWide_slice Try.underlying28 (hval 2 28 v2 rfl rfl))
  clear hA0
  have size0 := ents_reach hsz (j := 0) rfl rfl hD0
  have size2 := ints_reach hsz (j := 2) rfl rfl hD2
  refine (walk v0 l0 a1 v2 l2 W hR0 size0 w1 hR2 size2).mono fun e W' ⟨he, hg⟩ => ?_
  subst he
  have hlt := hW'.lt
  exact ⟨_, rfl, post_of_below (pa := (p0 ++ ([] ++ (p2 ++ [])))) (pv := []) hW' (fun _ _ _ => trodAll_cons_mk (shut_bool Try.underlying4 _) trodAll_mk0) (fun sp hsp => (trodAll_cons_mk (Go.WideElems.Trod_stays (by kernel_rfl) (by kernel_rfl) (of_decide_eq_true (by kernel_rfl)) hk0 (fun p hp => hg.same (hlt p (by simp [hp]))) (fun p hp => hsp p (by simp [hp]))) (trodAll_cons_mk (shut_int Try.underlying3 w1) (trodAll_cons_mk (Go.WideElems.Trod_stays (by kernel_rfl) (by kernel_rfl) (of_decide_eq_true (by kernel_rfl)) hk2 (fun p hp => hg.same (hlt p (by simp [hp]))) (fun p hp => hsp p (by simp [hp]))) trodAll_mk0)))) (fun _ _ => rfl) rfl hg (ok_one (by kernel_rfl) rfl (okWide_bool_mk Try.underlying4 _))⟩

theorem witness_row (os : Os) {H : Type} (enc : TypeId × Value → H) :
    (OpenSpec.ofChange Rows.tocWaysSpec).preRow enc Try.prog Try.f5 Rows.tocWaysRow.domain false Rows.tocWaysRow.laid ((laidWorld os).forCall (fun _ _ => 0) ⟨#[], #[.slice none 0 0, .int .i64 0, .slice none 0 0], []⟩).memory #[.slice none 0 0, .int .i64 0, .slice none 0 0] := by
  have hw : (DataW.whole enc Try.prog ((laidWorld os).forCall (fun _ _ => 0) ⟨#[], #[.slice none 0 0, .int .i64 0, .slice none 0 0], []⟩).memory Try.f5.params.toList Rows.tocWaysSpec.vars false (#[.slice none 0 0, .int .i64 0, .slice none 0 0] : Array Value).toList 8).map (fun x => (x.1, x.2.1)) =
      some ([.nil, .lit (.int .i64 0), .nil], []) := by kernel_rfl
  obtain ⟨⟨x1, x2, x3⟩, hx, hx1⟩ := Option.map_eq_some_iff.1 hw
  simp only [Prod.mk.injEq] at hx1
  obtain ⟨rfl, rfl⟩ := hx1
  exact OpenSpec.preRow_of_cond 8 hx (by kernel_rfl) (fun k hk => by cases hk) (by kernel_rfl) (laid_met _)

set_option maxRecDepth 100000 in
theorem lifted (os : Os) (started : os.Started) (H : Type) (enc : TypeId × Value → H) (F : Stop.Interp) :
    ReturnsInHanded {} Try.checked os 5 .any ((OpenSpec.ofChange Rows.tocWaysSpec).preRow enc Try.prog Try.f5 Rows.tocWaysRow.domain false Rows.tocWaysRow.laid) (((OpenSpec.ofChange Rows.tocWaysSpec).at F).post enc Try.prog Try.f5 false true false false) := by
  refine returnsInHanded_of_row (C := Try.checked) (s := (OpenSpec.ofChange Rows.tocWaysSpec)) own started (by kernel_rfl) Try.func5
    (witness_row_at (enc := enc) (C := Try.checked) false (laidWorld os) #[.slice none 0 0, .int .i64 0, .slice none 0 0] rfl (by kernel_rfl) (by kernel_rfl) (by kernel_rfl) (witness_row os enc)) ?_
  intro W base args ds gs before hval hW _ hcond hsz hL hS _
  exact contract H enc W base args ds gs before hval hW hsz

set_option maxHeartbeats 16000000 in
theorem closed : joinedFacts Try.pinned.checked.prog 5 Try.f5 ((OpenSpec.ofChange Rows.tocWaysSpec)).bare Rows.tocWaysRow = true := by
  unfold joinedFacts
  repeat' (with_reducible refine Bool.and_eq_true_iff.2 ⟨?_, ?_⟩)
  all_goals (as_aux_lemma => kernel_rfl)
theorem named : Try.pinned.checked.prog.funcNamed Rows.tocWaysRow.func = some 5 := by kernel_rfl
theorem inst : (Try.f5).isInstance Try.pinned.checked.prog Rows.tocWaysRow.origin Rows.tocWaysRow.targs := of_decide_eq_true (by kernel_rfl)
theorem wrap : (Try.f5).isWrapper Try.pinned.checked.prog Rows.tocWaysRow.wrapper Rows.tocWaysRow.mainSum := by
  unfold Func.isWrapper
  first | (rw [if_pos (by decide +kernel)]; kernel_rfl) | (rw [if_neg (by decide +kernel)]; exact ⟨rfl, rfl⟩)
theorem row : Rows.TocWaysSaid :=
  OpenClaim.holds_of_cond 5 Try.f5 rfl rfl rfl rfl rfl rfl rfl ⟨rfl, rfl, rfl, rfl, rfl⟩ rfl rfl rfl rfl rfl named Try.func5 closed inst wrap
    (fun os started H enc _ F => by rw [OpenClaim.pre_eq_preRow]; exact lifted os started H enc F)

theorem proved : Rows.TocWaysSaid := row
end Go.Proofs.Ytjnnkelbedmccaa.tocWays
