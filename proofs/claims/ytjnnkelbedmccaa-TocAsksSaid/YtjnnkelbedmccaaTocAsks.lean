/- What is proved: TocAsks holds of any contents, any number, any place and any topic: whether they may be, whether a topic is found, parents, ends and kids are what the document says. -/
import Derived.Test.YtjnnkelbedmccaaTon
import Derived.Test.YtjnnkelbedmccaaToq
import Derived.Test.YtjnnkelbedmccaaPost
import Derived.ProofKit
import Derived.OpenShut
import Derived.Deep.DeepHandedRow
namespace Go.Proofs.Ytjnnkelbedmccaa
open Go.ChangeShapes Go.WideShapes Go.ChangeAt Go.RowKit
open Go.ChangeMaps (open_string shut_string)
set_option linter.unusedVariables false
theorem kids_len (l : List Ent) (i : Int) (g : kidE l i = 0) : (natZ (kidsM l i)).length ≤ 1000000 := by
  rw [natZ_len]
  unfold kidsM
  have h := filter_len (fun k => decide (abv l k = i)) l.length
  have h2 : gdE l = 0 := by
    unfold kidE at g
    by_cases h3 : gdE l ≠ 0
    · rw [if_pos h3] at g; exact absurd g h3
    · omega
  have := (gd_of h2).len
  omega
namespace tocAsks
set_option maxRecDepth 100000 in
set_option maxHeartbeats 16000000 in
theorem walk (v : Value) (l : List Ent) (N i x : Int) (W : World) (hs : RdE W v l) (hsz : l.length * 16 ≤ 140737488351232) (hN : (Lit.int .i64 N).wf = true) (hi : (Lit.int .i64 i).wf = true) (hx : (Lit.int .i64 x).wf = true) :
    Calls Try.prog 4 #[v, .int .i64 N, .int .i64 i, .int .i64 x] W fun e W' => e = .returned (.bool true) ∧ Below W.heap.size W W' := by
  obtain ⟨pl, cl, rfl, hcl, hcm⟩ := hs.form
  have HL := Lib.hid hs
  have HLN := Lib.hid (show l.length * 16 ≤ 140737488355328 by omega)
  have HB := Lib.hid (Below.refl W.heap.size W)
  clear hs hsz hN hi hx hcl hcm
  go_enter Try.func4, Try.ntmps4
  go_wp2_with fail
  refine (twin_pro l _ _ HL.out HLN.out).mono ?_
  rintro e w1a ⟨v1, rfl, hR, hb⟩
  have HR := Lib.hid hR
  have HBa := Lib.hid (HB.out.trans (hb.mono HB.out.size))
  have HLa := Lib.hid (HL.out.below hb)
  clear HB HL hR hb
  obtain ⟨⟨p1, q1⟩, hp⟩ : ∃ p, chk N l = p := ⟨_, rfl⟩
  have HP := Lib.hid hp
  have HQ := Lib.hid (check_pro l v1 N w1a HR.out)
  clear hp
  go_wp2_with fail
  refine HQ.out.mono ?_
  unfold ChkIs
  rw [HP.out]
  rintro e w1b ⟨rfl, hb⟩
  have HBb := Lib.hid (HBa.out.trans (hb.mono HBa.out.size))
  have HLb := Lib.hid (HLa.out.below hb)
  have HD := Lib.hid (dcheck_ref l (.slice pl l.length cl) N w1b HLb.out)
  clear hb HQ HR HBa HLa
  go_wp2_with fail
  refine HD.out.mono ?_
  unfold ChkIs
  rw [HP.out]
  rintro e w1c ⟨rfl, hb⟩
  have HB := Lib.hid (HBb.out.trans (hb.mono HBb.out.size))
  have HL := Lib.hid (HLb.out.below hb)
  have t1 : (p1 != p1) = false := by simp
  have s1 : (q1 != q1) = false := by simp
  clear hb HD HP HBb HLb
  go_wp2_with fail
  refine (awake_law _).mono ?_
  rintro e wz ⟨rfl, hb⟩
  have HB9 := Lib.hid (HB.out.trans (hb.mono HB.out.size))
  have HL9 := Lib.hid (HL.out.below hb)
  clear hb HB HL t1 s1
  have HB := HB9
  have HL := HL9
  clear HB9 HL9
  go_wp2_with fail
  refine (twin_pro l _ _ HL.out HLN.out).mono ?_
  rintro e w2a ⟨v2, rfl, hR, hb⟩
  have HR := Lib.hid hR
  have HBa := Lib.hid (HB.out.trans (hb.mono HB.out.size))
  have HLa := Lib.hid (HL.out.below hb)
  clear HB HL hR hb
  obtain ⟨⟨p2, q2⟩, hp⟩ : ∃ p, findE l x = p := ⟨_, rfl⟩
  have HP := Lib.hid hp
  have HQ := Lib.hid (find_pro l v2 x w2a HR.out)
  clear hp
  go_wp2_with fail
  refine HQ.out.mono ?_
  skip
  rw [HP.out]
  rintro e w2b ⟨rfl, hb⟩
  have HBb := Lib.hid (HBa.out.trans (hb.mono HBa.out.size))
  have HLb := Lib.hid (HLa.out.below hb)
  have HD := Lib.hid (dfind_ref l (.slice pl l.length cl) x w2b HLb.out)
  clear hb HQ HR HBa HLa
  go_wp2_with fail
  refine HD.out.mono ?_
  skip
  rw [HP.out]
  rintro e w2c ⟨rfl, hb⟩
  have HB := Lib.hid (HBb.out.trans (hb.mono HBb.out.size))
  have HL := Lib.hid (HLb.out.below hb)
  have t2 : (p2 != p2) = false := by simp
  have s2 : (q2 != q2) = false := by simp
  clear hb HD HP HBb HLb
  go_wp2_with fail
  refine (twin_pro l _ _ HL.out HLN.out).mono ?_
  rintro e w3a ⟨v3, rfl, hR, hb⟩
  have HR := Lib.hid hR
  have HBa := Lib.hid (HB.out.trans (hb.mono HB.out.size))
  have HLa := Lib.hid (HL.out.below hb)
  clear HB HL hR hb
  obtain ⟨⟨p3, q3⟩, hp⟩ : ∃ p, parE l i = p := ⟨_, rfl⟩
  have HP := Lib.hid hp
  have HQ := Lib.hid (par_pro l v3 i w3a HR.out)
  clear hp
  go_wp2_with fail
  refine HQ.out.mono ?_
  unfold TwoIs
  rw [HP.out]
  rintro e w3b ⟨rfl, hb⟩
  have HBb := Lib.hid (HBa.out.trans (hb.mono HBa.out.size))
  have HLb := Lib.hid (HLa.out.below hb)
  have HD := Lib.hid (dpar_ref l (.slice pl l.length cl) i w3b HLb.out)
  clear hb HQ HR HBa HLa
  go_wp2_with fail
  refine HD.out.mono ?_
  unfold TwoIs
  rw [HP.out]
  rintro e w3c ⟨rfl, hb⟩
  have HB := Lib.hid (HBb.out.trans (hb.mono HBb.out.size))
  have HL := Lib.hid (HLb.out.below hb)
  have t3 : (p3 != p3) = false := by simp
  have s3 : (q3 != q3) = false := by simp
  clear hb HD HP HBb HLb
  go_wp2_with fail
  refine (twin_pro l _ _ HL.out HLN.out).mono ?_
  rintro e w4a ⟨v4, rfl, hR, hb⟩
  have HR := Lib.hid hR
  have HBa := Lib.hid (HB.out.trans (hb.mono HB.out.size))
  have HLa := Lib.hid (HL.out.below hb)
  clear HB HL hR hb
  obtain ⟨⟨p4, q4⟩, hp⟩ : ∃ p, endE l i = p := ⟨_, rfl⟩
  have HP := Lib.hid hp
  have HQ := Lib.hid (end_pro l v4 i w4a HR.out)
  clear hp
  go_wp2_with fail
  refine HQ.out.mono ?_
  unfold TwoIs
  rw [HP.out]
  rintro e w4b ⟨rfl, hb⟩
  have HBb := Lib.hid (HBa.out.trans (hb.mono HBa.out.size))
  have HLb := Lib.hid (HLa.out.below hb)
  have HD := Lib.hid (dend_ref l (.slice pl l.length cl) i w4b HLb.out)
  clear hb HQ HR HBa HLa
  go_wp2_with fail
  refine HD.out.mono ?_
  unfold TwoIs
  rw [HP.out]
  rintro e w4c ⟨rfl, hb⟩
  have HB := Lib.hid (HBb.out.trans (hb.mono HBb.out.size))
  have HL := Lib.hid (HLb.out.below hb)
  have t4 : (p4 != p4) = false := by simp
  have s4 : (q4 != q4) = false := by simp
  clear hb HD HP HBb HLb
  go_wp2_with fail
  refine (twin_pro l _ _ HL.out HLN.out).mono ?_
  rintro e w5a ⟨v5, rfl, hR, hb⟩
  have HR := Lib.hid hR
  have HBa := Lib.hid (HB.out.trans (hb.mono HB.out.size))
  have HLa := Lib.hid (HL.out.below hb)
  clear HB HL hR hb
  have HQ := Lib.hid (kids_pro l v5 i w5a HR.out)
  go_wp2_with fail
  refine HQ.out.mono ?_
  rintro e w5b ⟨vk, rfl, ho, hb⟩
  have HBb := Lib.hid (HBa.out.trans (hb.mono HBa.out.size))
  have HLb := Lib.hid (HLa.out.below hb)
  have HK := Lib.hid (RdZ.own ho rfl)
  have HD := Lib.hid (dkids_ref l (.slice pl l.length cl) i w5b HLb.out)
  clear ho hb HQ HR HBa HLa
  go_wp2_with fail
  refine HD.out.mono ?_
  rintro e w5c ⟨vd, rfl, ho, hb⟩
  have HB := Lib.hid (HBb.out.trans (hb.mono HBb.out.size))
  have HL := Lib.hid (HLb.out.below hb)
  have HI := Lib.hid (ints_pro (if kidE l i = 0 then natZ (kidsM l i) else []) vk vd w5c (HK.out.below hb) (RdZ.own ho rfl) (by
    by_cases h : kidE l i = 0
    · rw [if_pos h]; exact kids_len l i h
    · rw [if_neg h]; simp))
  obtain ⟨q, hq⟩ : ∃ q, kidE l i = q := ⟨_, rfl⟩
  have tq : (q == q) = true := by simp
  rw [hq]
  clear ho hb HD HBb HLb HK hq
  go_wp2_with fail
  refine HI.out.mono ?_
  rintro e wy ⟨rfl, hb⟩
  have HBy := Lib.hid (HB.out.trans (hb.mono HB.out.size))
  clear hb
  go_wp2_with fail
  go_ret
  exact ⟨rfl, HBy.out⟩

set_option maxRecDepth 100000 in
theorem contract (H : Type) (enc : TypeId × Value → H) (W : World) (base : Nat) (args : Array Value) (ds gs : List (DataW H)) (before : List MemPlace)
    (hval : ∀ (j : Nat) t v, Try.f4.params[j]? = some t → args[j]? = some v → Value.okWide Try.prog W .any base t v)
    (hW : DataW.Whole enc Try.prog Try.f4.params.toList Rows.tocAsksSpec.vars false W args.toList ds gs before) (hsz0 : (DataW.weightsEach Try.prog (Try.f4.params.toList ++ Rows.tocAsksSpec.plain.varTypes Try.prog) (ds ++ gs)).all (· ≤ reachBytes) = true) :
    Calls Try.prog 4 args W fun e W' => ∃ v, e = .returned v ∧ Rows.tocAsksSpec.post enc Try.prog Try.f4 false true false false W args v W' := by
  have hW' := hW
  obtain ⟨p, q, hA0, hV, rfl, hfz, hnd⟩ := hW
  have hA : DataW.TrodAll enc Try.prog W 0 (fun _ => true) true Try.f4.params.toList args.toList ds p := hA0
  rw [Try.params4] at hA hval
  have hsz := hsz0
  rw [Try.params4] at hsz
  clear hsz0
  obtain ⟨v0, vs0, d0, ds0, p0, q0, hargs, rfl, rfl, h0, r0⟩ := trodAll_cons hA
  obtain ⟨v1, vs1, d1, ds1, p1, q1, rfl, rfl, rfl, h1, r1⟩ := trodAll_cons r0
  obtain ⟨v2, vs2, d2, ds2, p2, q2, rfl, rfl, rfl, h2, r2⟩ := trodAll_cons r1
  obtain ⟨v3, vs3, d3, ds3, p3, q3, rfl, rfl, rfl, h3, r3⟩ := trodAll_cons r2
  obtain ⟨rfl, rfl, rfl⟩ := trodAll_nil r3
  obtain rfl : args = #[v0, v1, v2, v3] := by cases args; simp_all
  obtain ⟨rfl, rfl⟩ := trodVars_none hV
  have hk0 := h0
  obtain ⟨l0, hR0, hD0⟩ := ents_read h0 (okWide_slice Try.underlying34 (hval 0 34 v0 rfl rfl))
  obtain ⟨a1, rfl, rfl, rfl, w1⟩ := open_int Try.underlying3 (hval 1 3 v1 rfl rfl) h1
  obtain ⟨a2, rfl, rfl, rfl, w2⟩ := open_int Try.underlying3 (hval 2 3 v2 rfl rfl) h2
  obtain ⟨a3, rfl, rfl, rfl, w3⟩ := open_int Try.underlying3 (hval 3 3 v3 rfl rfl) h3
  clear hA0
  have size0 := ents_reach hsz (j := 0) rfl rfl hD0
  refine (walk v0 l0 a1 a2 a3 W hR0 size0 w1 w2 w3).mono fun e W' ⟨he, hg⟩ => ?_
  subst he
  have hlt := hW'.lt
  exact ⟨_, rfl, post_of_below (pa := (p0 ++ ([] ++ ([] ++ ([] ++ []))))) (pv := []) hW' (fun _ _ _ => trodAll_cons_mk (shut_bool Try.underlying4 _) trodAll_mk0) (fun sp hsp => (trodAll_cons_mk (Go.WideElems.Trod_stays (by kernel_rfl) (by kernel_rfl) (of_decide_eq_true (by kernel_rfl)) hk0 (fun p hp => hg.same (hlt p (by simp [hp]))) (fun p hp => hsp p (by simp [hp]))) (trodAll_cons_mk (shut_int Try.underlying3 w1) (trodAll_cons_mk (shut_int Try.underlying3 w2) (trodAll_cons_mk (shut_int Try.underlying3 w3) trodAll_mk0))))) (fun _ _ => rfl) rfl hg (ok_one (by kernel_rfl) rfl (okWide_bool_mk Try.underlying4 _))⟩

theorem witness_row (os : Os) {H : Type} (enc : TypeId × Value → H) :
    (OpenSpec.ofChange Rows.tocAsksSpec).preRow enc Try.prog Try.f4 Rows.tocAsksRow.domain false Rows.tocAsksRow.laid ((laidWorld os).forCall (fun _ _ => 0) ⟨#[], #[.slice none 0 0, .int .i64 0, .int .i64 0, .int .i64 0], []⟩).memory #[.slice none 0 0, .int .i64 0, .int .i64 0, .int .i64 0] := by
  have hw : (DataW.whole enc Try.prog ((laidWorld os).forCall (fun _ _ => 0) ⟨#[], #[.slice none 0 0, .int .i64 0, .int .i64 0, .int .i64 0], []⟩).memory Try.f4.params.toList Rows.tocAsksSpec.vars false (#[.slice none 0 0, .int .i64 0, .int .i64 0, .int .i64 0] : Array Value).toList 8).map (fun x => (x.1, x.2.1)) =
      some ([.nil, .lit (.int .i64 0), .lit (.int .i64 0), .lit (.int .i64 0)], []) := by kernel_rfl
  obtain ⟨⟨x1, x2, x3⟩, hx, hx1⟩ := Option.map_eq_some_iff.1 hw
  simp only [Prod.mk.injEq] at hx1
  obtain ⟨rfl, rfl⟩ := hx1
  exact OpenSpec.preRow_of_cond 8 hx (by kernel_rfl) (fun k hk => by cases hk) (by kernel_rfl) (laid_met _)

set_option maxRecDepth 100000 in
theorem lifted (os : Os) (started : os.Started) (H : Type) (enc : TypeId × Value → H) (F : Stop.Interp) :
    ReturnsInHanded {} Try.checked os 4 .any ((OpenSpec.ofChange Rows.tocAsksSpec).preRow enc Try.prog Try.f4 Rows.tocAsksRow.domain false Rows.tocAsksRow.laid) (((OpenSpec.ofChange Rows.tocAsksSpec).at F).post enc Try.prog Try.f4 false true false false) := by
  refine returnsInHanded_of_row (C := Try.checked) (s := (OpenSpec.ofChange Rows.tocAsksSpec)) own started (by kernel_rfl) Try.func4
    (witness_row_at (enc := enc) (C := Try.checked) false (laidWorld os) #[.slice none 0 0, .int .i64 0, .int .i64 0, .int .i64 0] rfl (by kernel_rfl) (by kernel_rfl) (by kernel_rfl) (witness_row os enc)) ?_
  intro W base args ds gs before hval hW _ hcond hsz hL hS _
  exact contract H enc W base args ds gs before hval hW hsz

set_option maxHeartbeats 16000000 in
theorem closed : joinedFacts Try.pinned.checked.prog 4 Try.f4 ((OpenSpec.ofChange Rows.tocAsksSpec)).bare Rows.tocAsksRow = true := by
  unfold joinedFacts
  repeat' (with_reducible refine Bool.and_eq_true_iff.2 ⟨?_, ?_⟩)
  all_goals (as_aux_lemma => kernel_rfl)
theorem named : Try.pinned.checked.prog.funcNamed Rows.tocAsksRow.func = some 4 := by kernel_rfl
theorem inst : (Try.f4).isInstance Try.pinned.checked.prog Rows.tocAsksRow.origin Rows.tocAsksRow.targs := of_decide_eq_true (by kernel_rfl)
theorem wrap : (Try.f4).isWrapper Try.pinned.checked.prog Rows.tocAsksRow.wrapper Rows.tocAsksRow.mainSum := by
  unfold Func.isWrapper
  first | (rw [if_pos (by decide +kernel)]; kernel_rfl) | (rw [if_neg (by decide +kernel)]; exact ⟨rfl, rfl⟩)
theorem row : Rows.TocAsksSaid :=
  OpenClaim.holds_of_cond 4 Try.f4 rfl rfl rfl rfl rfl rfl rfl ⟨rfl, rfl, rfl, rfl, rfl⟩ rfl rfl rfl rfl rfl named Try.func4 closed inst wrap
    (fun os started H enc _ F => by rw [OpenClaim.pre_eq_preRow]; exact lifted os started H enc F)

theorem proved : Rows.TocAsksSaid := row
end Go.Proofs.Ytjnnkelbedmccaa.tocAsks
