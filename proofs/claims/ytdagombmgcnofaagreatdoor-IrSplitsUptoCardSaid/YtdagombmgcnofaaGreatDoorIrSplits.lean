/- What is proved: IrSplits holds of all operations: what the program takes apart it puts together again. Its condition: what comes in is of bulk at most 1048576 (the statement's second form). -/
import Derived.Test.YtdagombmgcnofaaGreatDoorIw
import Derived.Test.YtdagombmgcnofaaGreatDoorIx
import Derived.Test.YtdagombmgcnofaaGreatDoorJe
import Derived.Test.YtdagombmgcnofaaGreatDoorPost
import Derived.Test.YtdagombmgcnofaaGreatDoorCards
import Derived.Test.YtdagombmgcnofaaGreatDoorTie
import Derived.ProofKit
import Derived.OpenShut
import Derived.Deep.DeepHandedRow
import Derived.Deep.RegionHeld3
namespace Go.Proofs.YtdagombmgcnofaaGreatDoor.irSplits
open Go.ChangeShapes Go.WideShapes Go.ChangeAt Go.RowKit Go.Maps Go.Sort Go.Proofs.YtdagombmgcnofaaGreatDoor.Ir
open Go.ChangeMaps (open_string shut_string)
set_option linter.unusedVariables false
set_option linter.unusedSimpArgs false
theorem empty_t {t : ByteArray} (h : ¬ 1 ≤ t.size) : t = ⟨#[]⟩ := by
  apply ByteArray.ext
  exact Array.eq_empty_of_size_eq_zero (show t.data.size = 0 by show t.size = 0; omega)
theorem full_t {t : ByteArray} (h : 1 ≤ t.size) : t ≠ ⟨#[]⟩ := by
  rintro rfl
  exact absurd h (by decide)
set_option maxRecDepth 100000 in
set_option maxHeartbeats 4000000 in
theorem walk (v0 : Value) (l0 : List Opr) (W : World) (hR : RdO (fun _ => True) W v0 l0) (hs : l0.length ≤ 1048576 ∧ sumT l0 ≤ 1048576 ∧ ∀ x ∈ l0, x.w.length ≤ 1048576) (hT : Tabs W) :
    Calls Tryz.prog 7 #[v0] W fun e W' => e = .returned (.bool true) ∧ Below W.heap.size W W' := by
  obtain ⟨s1, s2, s3⟩ := hs
  have HAW := Lib.hid (awake_law W hT)
  have HR := Lib.hid hR
  have HS1 := Lib.hid (show l0.length * 56 ≤ 140737488355328 by omega)
  have HS2 := Lib.hid s2
  have HS3 := Lib.hid (show ∀ x ∈ l0, x.w.length * 8 ≤ 140737488355328 from fun x hx => by have := s3 x hx; omega)
  obtain ⟨pa, cap, rfl, hc1, hc2⟩ := sliceN hR
  obtain ⟨n, hn⟩ : ∃ n, l0.length = n := ⟨_, rfl⟩
  have HN := Lib.hid hn
  rw [hn] at HR hc1 s1 ⊢
  have hn62 : n ≤ 9223372036854775807 := by omega
  clear hR s1 s2 s3 hn hc1 hT
  go_enter Tryz.func7, Tryz.ntmps7
  go_wp2_with fail
  refine HAW.out.mono ?_
  rintro e w1 ⟨rfl, hb⟩
  have HB1 := Lib.hid hb
  clear hb
  go_wp2_with fail
  go_loopw [13] (fun i wr => ∃ k : Nat, i = .int .i64 k ∧ k ≤ n ∧ Hid (∀ x ∈ l0.take k, x.k = 1 → 1 ≤ x.t.size) ∧ Hid (Below W.heap.size W wr)) (fun i _ => n - (intOf i).toNat)
  case atStart => exact ⟨0, rfl, Nat.zero_le _, Lib.hid (fun x hx => by simp at hx), HB1⟩
  case round =>
    obtain ⟨k, rfl, hk, HC, HB⟩ := hrel
    by_cases hlt : k < n
    · have hkl : k < l0.length := by rw [HN.out]; exact hlt
      obtain ⟨b, off, rfl, c0, c1, c2, wv, c3, h4⟩ := (HR.out.below HB.out).at_ hkl
      obtain ⟨p4, q4, rfl, _, _⟩ := h4.form
      have HTK := Lib.hid (List.take_succ_eq_append_getElem hkl)
      obtain ⟨x, hx⟩ : ∃ x, l0[k]'hkl = x := ⟨_, rfl⟩
      rw [hx] at c0 c1 c2 c3 HTK
      obtain ⟨z4, hz4⟩ : ∃ z4, x.w.length = z4 := ⟨_, rfl⟩
      rw [hz4] at c3
      have HB2 := Lib.hid (HB.out.alloc HB.out.size (.cells #[.int .i64 x.k, .int .i64 x.n, .string x.t, .slice p4 z4 q4] 81))
      have k1 : (k : Int) < n := by omega
      have HLT := Lib.hid hlt
      clear hx hz4 h4 hlt
      by_cases hk1 : x.k = 1
      · have HK1 := Lib.hid hk1
        rw [hk1] at c0 HB2
        by_cases ht : 1 ≤ x.t.size
        · have HF := Lib.hid (full_t ht)
          have t2 : x.t.toList.isEmpty = false := notEmpty ht
          have HT1 := Lib.hid ht
          clear hk1 ht
          go_wp2_with fail
          go_roundw
          case measure => have := HLT.out; simp [intOf]; omega
          case rel => exact ⟨k + 1, by go_num, HLT.out, Lib.hid (fun y hy h => by
            rw [HTK.out, List.mem_append] at hy
            rcases hy with hy | hy
            · exact HC.out y hy h
            · rw [List.mem_singleton.1 hy]; exact HT1.out), HB2⟩
        · have hte := empty_t ht
          rw [hte] at c2 HB2
          clear hk1 ht hte
          go_wp2_with fail
          go_ret
          exact ⟨rfl, HB2.out⟩
      · have t1 : (x.k == 1) = false := by simpa using hk1
        have t3 : (x.k != 1) = true := by simpa using hk1
        by_cases ht : 1 ≤ x.t.size
        · have HF := Lib.hid (full_t ht)
          have t2 : x.t.toList.isEmpty = false := notEmpty ht
          clear hk1 ht
          go_wp2_with fail
          go_ret
          exact ⟨rfl, HB2.out⟩
        · have hte := empty_t ht
          rw [hte] at c2 HB2
          have HK1 := Lib.hid hk1
          clear hk1 ht hte
          go_wp2_with fail
          go_roundw
          case measure => have := HLT.out; simp [intOf]; omega
          case rel => exact ⟨k + 1, by go_num, HLT.out, Lib.hid (fun y hy h => by
            rw [HTK.out, List.mem_append] at hy
            rcases hy with hy | hy
            · exact HC.out y hy h
            · rw [List.mem_singleton.1 hy] at h; exact absurd h HK1.out), HB2⟩
    · obtain rfl : k = n := by omega
      have hz1 : ¬ (k : Int) < k := by omega
      have HP := Lib.hid (show ∀ x ∈ l0, x.k = 1 → 1 ≤ x.t.size by have h9 := HC.out; rw [show l0.take k = l0 by rw [← HN.out, List.take_length]] at h9; exact h9)
      have HTS := Lib.hid (show ∀ x ∈ l0, x.t.size ≤ 9223372036854775807 from fun x hx => by have := sumT_mem hx; have := HS2.out; omega)
      have HR1 := Lib.hid (HR.out.below HB.out)
      have HTW := Lib.hid (twin_law l0 _ wr HR1.out HS1.out HS3.out)
      clear hlt
      go_wp2_with fail
      refine HTW.out.mono ?_
      rintro e w2 ⟨v2, p2, rfl, ho, hps, hb⟩
      have hrd := ho.rd
      rw [hps] at hrd
      have HSP := Lib.hid (split_pro l0 v2 w2 hrd HS1.out HS3.out HTS.out)
      have HB2 := Lib.hid (HB.out.trans (hb.mono HB.out.size))
      clear ho hps hb hrd HTW
      go_wp2_with fail
      refine HSP.out.mono ?_
      rintro e w3 ⟨v3, u3, p3, rfl, ho, hps, hu, hb⟩
      have HB3 := Lib.hid (HB2.out.trans (hb.mono HB2.out.size))
      have HRD := Lib.hid (show RdO (w2.heap.size ≤ ·) w3 v3 (l0.map bareO) from by have h9 := ho.rd; rw [hps] at h9; exact h9)
      have HRZ := Lib.hid (RdZ.own hu rfl)
      have HTW := Lib.hid (twin_law l0 _ w3 (HR.out.below HB3.out) HS1.out HS3.out)
      clear ho hps hu hb HSP
      go_wp2_with fail
      refine HTW.out.mono ?_
      rintro e w4 ⟨v4, p4, rfl, ho, hps, hb⟩
      have hrd := ho.rd
      rw [hps] at hrd
      have HTX := Lib.hid (text_pro l0 v4 w4 hrd (by have := HS2.out; omega))
      have HB4 := Lib.hid (HB3.out.trans (hb.mono HB3.out.size))
      have HRD4 := Lib.hid (HRD.out.below hb)
      have HRZ4 := Lib.hid (HRZ.out.below hb)
      clear ho hps hb hrd HTW HRD HRZ
      go_wp2_with fail
      refine HTX.out.mono ?_
      rintro e w5 ⟨rfl, hb⟩
      have HB5 := Lib.hid (HB4.out.trans (hb.mono HB4.out.size))
      have HJ := Lib.hid (join_pro l0 v3 u3 w5 (HRD4.out.below hb) (HRZ4.out.below hb) HS1.out HS3.out HP.out (by have := HS2.out; omega))
      clear hb HTX HRD4 HRZ4
      go_wp2_with fail
      refine HJ.out.mono ?_
      rintro e w6 ⟨v6, p6, rfl, ho, hps, hb⟩
      have HB6 := Lib.hid (HB5.out.trans (hb.mono HB5.out.size))
      have hrd := ho.rd
      rw [hps] at hrd
      have HSM := Lib.hid (same_ref l0 v6 _ w6 hrd (HR.out.below HB6.out))
      clear ho hps hb hrd HJ
      go_wp2_with fail
      refine HSM.out.mono ?_
      rintro e w7 ⟨rfl, hb⟩
      have HB7 := Lib.hid (HB6.out.trans (hb.mono HB6.out.size))
      clear hb
      go_wp2_with fail
      go_ret
      exact ⟨rfl, HB7.out⟩

set_option maxRecDepth 100000 in
theorem contract (H : Type) (enc : TypeId × Value → H) (W : World) (base : Nat) (args : Array Value) (ds gs : List (DataW H)) (before : List MemPlace)
    (hval : ∀ (j : Nat) t v, Tryz.f7.params[j]? = some t → args[j]? = some v → Value.okWide Tryz.prog W .any base t v)
    (hW : DataW.Whole enc Tryz.prog Tryz.f7.params.toList Rows.irSplitsSpec.vars false W args.toList ds gs before) (hk : Rows.uptoSmall H (ds ++ gs) = true) (hT : Tabs W) :
    Calls Tryz.prog 7 args W fun e W' => ∃ v, e = .returned v ∧ Rows.irSplitsSpec.post enc Tryz.prog Tryz.f7 false true false false W args v W' := by
  have hW' := hW
  obtain ⟨p, q, hA0, hV, rfl, hfz, hnd⟩ := hW
  have hA : DataW.TrodAll enc Tryz.prog W 0 (fun _ => true) true Tryz.f7.params.toList args.toList ds p := hA0
  rw [Tryz.params7] at hA hval
  obtain ⟨v0, vs0, d0, ds0, p0, q0, hargs, rfl, rfl, h0, r0⟩ := trodAll_cons hA
  obtain ⟨rfl, rfl, rfl⟩ := trodAll_nil r0
  obtain rfl : args = #[v0] := by cases args; simp_all
  obtain ⟨rfl, rfl⟩ := trodVars_none hV
  have hk0 := h0
  obtain ⟨l0, hR0, hD0⟩ := ops_read h0 (okWide_slice Tryz.underlying44 (hval 0 44 v0 rfl rfl))
  clear hA0
  simp only [List.append_nil] at hk
  have hb0 := of_decide_eq_true hk
  simp only [Rows.uptoBulkAll] at hb0
  have size0 := ops_bulk hD0 (n := 1048576) (by omega)
  refine (walk v0 l0 W hR0 size0 hT).mono fun e W' ⟨he, hg⟩ => ?_
  subst he
  have hlt := hW'.lt
  exact ⟨_, rfl, post_of_below (pa := (p0 ++ [])) (pv := []) hW' (fun _ _ _ => trodAll_cons_mk (shut_bool Tryz.underlying4 _) trodAll_mk0) (fun sp hsp => (trodAll_cons_mk (Go.WideElems.Trod_stays (by kernel_rfl) (by kernel_rfl) (of_decide_eq_true (by kernel_rfl)) hk0 (fun p hp => hg.same (hlt p (by simp [hp]))) (fun p hp => hsp p (by simp [hp]))) trodAll_mk0)) (fun _ _ => rfl) rfl hg (ok_one (by kernel_rfl) rfl (okWide_bool_mk Tryz.underlying4 _))⟩

theorem witness_row (os : Os) {H : Type} (enc : TypeId × Value → H) :
    (Rows.OpenSpec.upto Rows.irSplitsSpec).preRow enc Tryz.prog Tryz.f7 Rows.irSplitsUptoRow.domain false Rows.irSplitsUptoRow.laid ((laidWorld os).forCall (fun _ _ => 0) ⟨#[], #[.slice none 0 0], []⟩).memory #[.slice none 0 0] := by
  have hw : (DataW.whole enc Tryz.prog ((laidWorld os).forCall (fun _ _ => 0) ⟨#[], #[.slice none 0 0], []⟩).memory Tryz.f7.params.toList Rows.irSplitsSpec.vars false (#[.slice none 0 0] : Array Value).toList 8).map (fun x => (x.1, x.2.1)) =
      some ([.nil], []) := by kernel_rfl
  obtain ⟨⟨x1, x2, x3⟩, hx, hx1⟩ := Option.map_eq_some_iff.1 hw
  simp only [Prod.mk.injEq] at hx1
  obtain ⟨rfl, rfl⟩ := hx1
  exact OpenSpec.preRow_of_cond 8 hx (by kernel_rfl) (fun k hk => by cases hk; kernel_rfl) (by kernel_rfl) (laid_met os _)

set_option maxRecDepth 100000 in
theorem lifted (os : Os) (started : os.Started) (H : Type) (enc : TypeId × Value → H) (F : Stop.Interp) :
    ReturnsInHanded {} Tryz.checked os 7 .any ((Rows.OpenSpec.upto Rows.irSplitsSpec).preRow enc Tryz.prog Tryz.f7 Rows.irSplitsUptoRow.domain false Rows.irSplitsUptoRow.laid) (((Rows.OpenSpec.upto Rows.irSplitsSpec).at F).post enc Tryz.prog Tryz.f7 false true false false) := by
  refine returnsInHanded_of_row (C := Tryz.checked) (s := (Rows.OpenSpec.upto Rows.irSplitsSpec)) own started (by kernel_rfl) Tryz.func7
    (witness_row_at (enc := enc) (C := Tryz.checked) false (laidWorld os) #[.slice none 0 0] rfl (by kernel_rfl) (by kernel_rfl) (by kernel_rfl) (witness_row os enc)) ?_
  intro W base args ds gs before hval hW _ hcond hsz hL hS _
  exact contract H enc W base args ds gs before hval hW (hcond _ rfl) (tabs_of hL hS)

set_option maxHeartbeats 16000000 in
theorem closed : joinedFacts Tryz.pinned.checked.prog 7 Tryz.f7 ((Rows.OpenSpec.upto Rows.irSplitsSpec)).bare Rows.irSplitsUptoRow = true := by
  unfold joinedFacts
  repeat' (with_reducible refine Bool.and_eq_true_iff.2 ⟨?_, ?_⟩)
  all_goals (as_aux_lemma => kernel_rfl)
theorem named : Tryz.pinned.checked.prog.funcNamed Rows.irSplitsUptoRow.func = some 7 := by kernel_rfl
theorem inst : (Tryz.f7).isInstance Tryz.pinned.checked.prog Rows.irSplitsUptoRow.origin Rows.irSplitsUptoRow.targs := of_decide_eq_true (by kernel_rfl)
theorem wrap : (Tryz.f7).isWrapper Tryz.pinned.checked.prog Rows.irSplitsUptoRow.wrapper Rows.irSplitsUptoRow.mainSum := by
  unfold Func.isWrapper
  first | (rw [if_pos (by decide +kernel)]; kernel_rfl) | (rw [if_neg (by decide +kernel)]; exact ⟨rfl, rfl⟩)
theorem row : Rows.IrSplitsUptoSaid :=
  OpenClaim.holds_of_cond 7 Tryz.f7 rfl rfl rfl rfl rfl rfl rfl ⟨rfl, rfl, rfl, rfl, rfl⟩ rfl rfl rfl rfl rfl named Tryz.func7 closed inst wrap
    (fun os started H enc _ F => by rw [OpenClaim.pre_eq_preRow]; exact lifted os started H enc F)

theorem plain (f : FuncId) (fn : Func) (hf : Tryz.pinned.checked.prog.funcNamed Rows.irSplitsUptoRow.func = some f) (hfn : Tryz.pinned.checked.prog.funcs[f]? = some fn) :
    true = Tryz.pinned.checked.prog.looks [] ∧ ∀ (j : Nat) t, fn.params[j]? = some t → Tryz.pinned.checked.prog.wantsStandIn t = false := by
  obtain rfl : f = 7 := Option.some.inj ((show Tryz.prog.funcNamed Rows.irSplitsUptoRow.func = some 7 by kernel_rfl).symm.trans hf) |>.symm
  obtain rfl : fn = Tryz.f7 := (Option.some.inj (Tryz.func7.symm.trans hfn)).symm
  refine ⟨by kernel_rfl, fun j t ht => ?_⟩
  rw [Tryz.params7] at ht
  have hm : t ∈ [44] := by simpa using Array.mem_of_getElem? ht
  simp only [List.mem_cons, List.mem_nil_iff, or_false] at hm
  subst hm
  exact (show Tryz.prog.wantsStandIn 44 = false by kernel_rfl)

theorem proved : Rows.IrSplitsUptoCardSaid :=
  Claim7.holds_tied_plain_at .later [] _ _ _ _ row (fun _ h => by cases h) (by kernel_rfl) (fun _ h => by cases h) irSplitsUpto_row_tie rfl ⟨rfl, rfl⟩ (by kernel_rfl) rfl plain (by kernel_rfl)
end Go.Proofs.YtdagombmgcnofaaGreatDoor.irSplits
