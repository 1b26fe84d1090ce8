/- What is proved: TableRows holds of all columns and flows: the program makes a row as the document does. -/
import Derived.Test.YtpnlajgcfibelaaVn
import Derived.Test.YtpnlajgcfibelaaVo
import Derived.Test.YtpnlajgcfibelaaPost
import Derived.ProofKit
import Derived.OpenShut
import Derived.Deep.DeepHandedRow
namespace Go.Proofs.Ytpnlajgcfibelaa.tableRows
open Go.ChangeShapes Go.WideShapes Go.ChangeAt Go.RowKit Go.Maps Go.Proofs.Ytpnlajgcfibelaa.Tb
open Go.ChangeMaps (open_string shut_string)
set_option linter.unusedVariables false
set_option linter.unusedSimpArgs false
set_option maxRecDepth 100000 in
set_option maxHeartbeats 4000000 in
theorem walk (v : Value) (cs : List (Int × Int)) (u : Value) (fs : List (List Gl)) (W : World) (hR : RdC (fun _ => True) W v cs) (hs : cs.length * 16 ≤ 140737488351232) (hF : RdL (fun _ => True) W u fs) (hfs : fs.length * 24 ≤ 140737488351232 ∧ ∀ x ∈ fs, x.length * 48 ≤ 140737488351232) :
    Calls Try.prog 5 #[v, u] W fun e W' => e = .returned (.bool true) ∧ Below W.heap.size W W' := by
  obtain ⟨i0, hi0, hz0, hz1, hz2⟩ := info_parts infoC
  obtain ⟨E, hE⟩ : ∃ E, rowE cs fs = E := ⟨_, rfl⟩
  obtain ⟨ls, hls⟩ : ∃ ls, rowL cs fs = ls := ⟨_, rfl⟩
  have HR := Lib.hid hR
  have HF := Lib.hid hF
  have HE := Lib.hid hE
  have HLS := Lib.hid hls
  have M1 := Lib.hid (show 0 + cs.length ≤ maxLen by unfold maxLen; omega)
  have M2 := Lib.hid (show (0 + cs.length) * 16 ≤ 140737488355328 by omega)
  have S1 := Lib.hid (show fs.length * 24 ≤ 140737488355328 by omega)
  have S2 := Lib.hid (show ∀ x ∈ fs, x.length * 48 ≤ 140737488355328 from fun x hx => by have := hfs.2 x hx; omega)
  have S3 := Lib.hid (show ∀ x ∈ fs, (x.length + 1) * 48 ≤ 140737488355328 from fun x hx => by have := hfs.2 x hx; omega)
  have HLI := Lib.hid hR.lies
  have t1 : (E == E) = true := by simp
  obtain ⟨pa, ca, rfl, _, _⟩ := sliceC hR
  obtain ⟨n, hn⟩ : ∃ n, cs.length = n := ⟨_, rfl⟩
  have HN := Lib.hid hn
  rw [hn] at HR M1 M2 HLI ⊢
  have E1 := Lib.hid (World.ownsRow_lit (e := 59) (size := 2) (base := W.heap.size) W #[] 0 (Nat.le_refl _) (Nat.zero_le _) rfl)
  have E1s := Lib.hid (show W.heap.size ≤ (W.alloc (.cells #[] 59)).heap.size by simp)
  clear hR hF hE hls hs hfs hn
  go_enter Try.func5, Try.ntmps5
  go_wp2_with (at_builtin; go_loud (refine wpList_append_lies' rfl _ _ 34 rfl W.heap.size 59 i0 _ 2 16 Try.underlying34 hi0 hz0 hz1 hz2 rfl (by decide) _ _ _ rfl E1.out _ _ _ rfl (HLI.out.alloc _) M1.out M2.out E1s.out ?_); intro v5 w5 hown5 hg5; have HO5 := Lib.hid hown5; have B5 := Lib.hid (((Below.refl W.heap.size W).alloc (Nat.le_refl _) _).grown hg5 E1s.out (fun k hk => (E1.out.lt k hk).1)); clear hown5 hg5)
  refine (twins_law fs _ w5 (HF.out.below B5.out) S1.out S2.out).mono ?_
  rintro e w6 ⟨v6, vs6, rfl, o6, b6⟩
  have R6 := Lib.hid (any_l o6.rd)
  have R5 : Hid (RdC AnyB w6 v5 cs) := Lib.hid ((any_c (RdC.own (by simpa using HO5.out) (by rw [HN.out]))).below b6)
  have B6 := Lib.hid (B5.out.trans (b6.mono B5.out.size))
  clear o6 b6
  go_wp2_with fail
  refine (row_pro cs fs v5 v6 w6 R5.out R6.out S3.out).mono ?_
  rintro e w7 ⟨v7, rfl, o7, b7⟩
  have B7 := Lib.hid (B6.out.trans (b7.mono B6.out.size))
  have R7 := Lib.hid (any_l o7)
  rw [HLS.out] at R7
  rw [HE.out]
  clear b7 o7
  go_wp2_with fail
  refine (row_ref cs fs _ _ w7 (HR.out.below B7.out) (HF.out.below B7.out) S3.out).mono ?_
  rintro e w8 ⟨v8, rfl, o8, b8⟩
  have B8 := Lib.hid (B7.out.trans (b8.mono B7.out.size))
  have R87 := Lib.hid (R7.out.below b8)
  have R8 := Lib.hid (any_l o8)
  rw [HLS.out] at R8
  rw [HE.out]
  clear b8 o8
  go_wp2_with fail
  refine (sameAll_ref ls _ _ w8 R87.out R8.out).mono ?_
  rintro e w9 ⟨rfl, b9⟩
  have B9 := Lib.hid (B8.out.trans (b9.mono B8.out.size))
  clear b9
  go_wp2_with fail
  refine (awake_law w9).mono ?_
  rintro e wa ⟨rfl, ba⟩
  have BA := Lib.hid (B9.out.trans (ba.mono B9.out.size))
  clear ba
  go_wp2_with fail
  go_ret
  exact ⟨rfl, BA.out⟩

set_option maxRecDepth 100000 in
theorem contract (H : Type) (enc : TypeId × Value → H) (W : World) (base : Nat) (args : Array Value) (ds gs : List (DataW H)) (before : List MemPlace)
    (hval : ∀ (j : Nat) t v, Try.f5.params[j]? = some t → args[j]? = some v → Value.okWide Try.prog W .any base t v)
    (hW : DataW.Whole enc Try.prog Try.f5.params.toList Rows.tableRowsSpec.vars false W args.toList ds gs before) (hsz0 : (DataW.weightsEach Try.prog (Try.f5.params.toList ++ Rows.tableRowsSpec.plain.varTypes Try.prog) (ds ++ gs)).all (· ≤ reachBytes) = true) :
    Calls Try.prog 5 args W fun e W' => ∃ v, e = .returned v ∧ Rows.tableRowsSpec.post enc Try.prog Try.f5 false true false false W args v W' := by
  have hW' := hW
  obtain ⟨p, q, hA0, hV, rfl, hfz, hnd⟩ := hW
  have hA : DataW.TrodAll enc Try.prog W 0 (fun _ => true) true Try.f5.params.toList args.toList ds p := hA0
  rw [Try.params5] at hA hval
  have hsz := hsz0
  rw [Try.params5] at hsz
  clear hsz0
  obtain ⟨v0, vs0, d0, ds0, p0, q0, hargs, rfl, rfl, h0, r0⟩ := trodAll_cons hA
  obtain ⟨v1, vs1, d1, ds1, p1, q1, rfl, rfl, rfl, h1, r1⟩ := trodAll_cons r0
  obtain ⟨rfl, rfl, rfl⟩ := trodAll_nil r1
  obtain rfl : args = #[v0, v1] := by cases args; simp_all
  obtain ⟨rfl, rfl⟩ := trodVars_none hV
  have hk0 := h0
  obtain ⟨l0, hR0, hD0⟩ := cols_read h0 (okWide_slice Try.underlying34 (hval 0 34 v0 rfl rfl))
  have hk1 := h1
  obtain ⟨l1, hR1, hD1⟩ := lists_read h1 (okWide_slice Try.underlying23 (hval 1 23 v1 rfl rfl))
  clear hA0
  have size0 := cols_reach hsz (j := 0) rfl rfl hD0
  have size1 := lists_reach hsz (j := 1) rfl rfl hD1
  refine (walk v0 l0 v1 l1 W hR0 size0 hR1 size1).mono fun e W' ⟨he, hg⟩ => ?_
  subst he
  have hlt := hW'.lt
  exact ⟨_, rfl, post_of_below (pa := (p0 ++ (p1 ++ []))) (pv := []) hW' (fun _ _ _ => trodAll_cons_mk (shut_bool Try.underlying4 _) trodAll_mk0) (fun sp hsp => (trodAll_cons_mk (Go.WideElems.Trod_stays (by kernel_rfl) (by kernel_rfl) (of_decide_eq_true (by kernel_rfl)) hk0 (fun p hp => hg.same (hlt p (by simp [hp]))) (fun p hp => hsp p (by simp [hp]))) (trodAll_cons_mk (Go.WideElems.Trod_stays (by kernel_rfl) (by kernel_rfl) (of_decide_eq_true (by kernel_rfl)) hk1 (fun p hp => hg.same (hlt p (by simp [hp]))) (fun p hp => hsp p (by simp [hp]))) trodAll_mk0))) (fun _ _ => rfl) rfl hg (ok_one (by kernel_rfl) rfl (okWide_bool_mk Try.underlying4 _))⟩

theorem witness_row (os : Os) {H : Type} (enc : TypeId × Value → H) :
    (OpenSpec.ofChange Rows.tableRowsSpec).preRow enc Try.prog Try.f5 Rows.tableRowsRow.domain false Rows.tableRowsRow.laid ((laidWorld os).forCall (fun _ _ => 0) ⟨#[], #[.slice none 0 0, .slice none 0 0], []⟩).memory #[.slice none 0 0, .slice none 0 0] := by
  have hw : (DataW.whole enc Try.prog ((laidWorld os).forCall (fun _ _ => 0) ⟨#[], #[.slice none 0 0, .slice none 0 0], []⟩).memory Try.f5.params.toList Rows.tableRowsSpec.vars false (#[.slice none 0 0, .slice none 0 0] : Array Value).toList 8).map (fun x => (x.1, x.2.1)) =
      some ([.nil, .nil], []) := by kernel_rfl
  obtain ⟨⟨x1, x2, x3⟩, hx, hx1⟩ := Option.map_eq_some_iff.1 hw
  simp only [Prod.mk.injEq] at hx1
  obtain ⟨rfl, rfl⟩ := hx1
  exact OpenSpec.preRow_of_cond 8 hx (by kernel_rfl) (fun k hk => by cases hk) (by kernel_rfl) (laid_met _)

set_option maxRecDepth 100000 in
theorem lifted (os : Os) (started : os.Started) (H : Type) (enc : TypeId × Value → H) (F : Stop.Interp) :
    ReturnsInHanded {} Try.checked os 5 .any ((OpenSpec.ofChange Rows.tableRowsSpec).preRow enc Try.prog Try.f5 Rows.tableRowsRow.domain false Rows.tableRowsRow.laid) (((OpenSpec.ofChange Rows.tableRowsSpec).at F).post enc Try.prog Try.f5 false true false false) := by
  refine returnsInHanded_of_row (C := Try.checked) (s := (OpenSpec.ofChange Rows.tableRowsSpec)) own started (by kernel_rfl) Try.func5
    (witness_row_at (enc := enc) (C := Try.checked) false (laidWorld os) #[.slice none 0 0, .slice none 0 0] rfl (by kernel_rfl) (by kernel_rfl) (by kernel_rfl) (witness_row os enc)) ?_
  intro W base args ds gs before hval hW _ hcond hsz hL hS _
  exact contract H enc W base args ds gs before hval hW hsz

set_option maxHeartbeats 16000000 in
theorem closed : joinedFacts Try.pinned.checked.prog 5 Try.f5 ((OpenSpec.ofChange Rows.tableRowsSpec)).bare Rows.tableRowsRow = true := by
  unfold joinedFacts
  repeat' (with_reducible refine Bool.and_eq_true_iff.2 ⟨?_, ?_⟩)
  all_goals (as_aux_lemma => kernel_rfl)
theorem named : Try.pinned.checked.prog.funcNamed Rows.tableRowsRow.func = some 5 := by kernel_rfl
theorem inst : (Try.f5).isInstance Try.pinned.checked.prog Rows.tableRowsRow.origin Rows.tableRowsRow.targs := of_decide_eq_true (by kernel_rfl)
theorem wrap : (Try.f5).isWrapper Try.pinned.checked.prog Rows.tableRowsRow.wrapper Rows.tableRowsRow.mainSum := by
  unfold Func.isWrapper
  first | (rw [if_pos (by decide +kernel)]; kernel_rfl) | (rw [if_neg (by decide +kernel)]; exact ⟨rfl, rfl⟩)
theorem row : Rows.TableRowsSaid :=
  OpenClaim.holds_of_cond 5 Try.f5 rfl rfl rfl rfl rfl rfl rfl ⟨rfl, rfl, rfl, rfl, rfl⟩ rfl rfl rfl rfl rfl named Try.func5 closed inst wrap
    (fun os started H enc _ F => by rw [OpenClaim.pre_eq_preRow]; exact lifted os started H enc F)

theorem proved : Rows.TableRowsSaid := row
end Go.Proofs.Ytpnlajgcfibelaa.tableRows
