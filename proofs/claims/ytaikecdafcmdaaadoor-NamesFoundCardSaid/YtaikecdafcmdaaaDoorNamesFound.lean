/- What is proved: NamesFound holds of every list of texts, with no bound: each name is found by itself, between blanks too; it is nearest to itself, and among those that begin so. -/
import Derived.Test.YtaikecdafcmdaaaDoorNfb
import Derived.Test.YtaikecdafcmdaaaDoorNin
import Derived.Test.YtaikecdafcmdaaaDoorNlf
import Derived.Test.YtaikecdafcmdaaaDoorPost
import Derived.Test.YtaikecdafcmdaaaDoorCards
import Derived.Test.YtaikecdafcmdaaaDoorTie
import Derived.ProofKit
import Derived.OpenShut
import Derived.Deep.DeepHandedRow
namespace Go.Proofs.YtaikecdafcmdaaaDoor.namesFound
open Go.ChangeShapes Go.WideShapes Go.ChangeAt Go.RowKit Go.Maps Go.Sort
open Go.ChangeMaps (open_string shut_string)
set_option linter.unusedVariables false

theorem among_step {zs : List Nat} {j i : Nat} (hj : j < zs.length) : decide (i ∈ zs.take (j + 1)) = (decide (i ∈ zs.take j) || ((zs[j] : Int) == (i : Int))) := by
  rw [List.take_succ_eq_append_getElem hj, Bool.eq_iff_iff]
  simp only [decide_eq_true_eq, List.mem_append, List.mem_singleton, Bool.or_eq_true, beq_iff_eq]
  constructor
  · rintro (h | h)
    · exact .inl h
    · exact .inr (by omega)
  · rintro (h | h)
    · exact .inl h
    · exact .inr (by omega)

set_option maxRecDepth 100000 in
set_option maxHeartbeats 8000000 in
theorem walk (v : Value) (l : List ByteArray) (W : World) (hR : RdT W v l) (hl : l.length * 16 ≤ 140737488351232) (hT : Tabs W) :
    Calls Tryd.prog 4 #[v] W fun e w' => e = .returned (.bool true) ∧ Below W.heap.size W w' := by
  obtain ⟨pa, cap, rfl, hc1, hc2⟩ := hR.form
  have HR := Lib.hid hR
  have HL := Lib.hid (show l.length * 16 ≤ 140737488355328 by omega)
  have HT := Lib.hid hT
  clear hR hT hc1 hc2 hl
  go_enter Tryd.func4, Tryd.ntmps4
  go_wp2_with fail
  refine (awake_law _ HT.out).mono ?_
  rintro e w1 ⟨rfl, h1⟩
  have HB1 := Lib.hid h1
  have HR1 := Lib.hid (HR.out.below h1)
  have HT1 := Lib.hid (HT.out.below h1 (Nat.le_refl _))
  clear h1
  go_wp2_with (at_builtin; go_loud (refine wpList_copyT rfl _ rfl l _ rfl HR1.out HL.out ?_); intro vm w2 hown hb2; obtain ⟨pm, cm, rfl⟩ := lenOf hown; have HO := Lib.hid (RdT.own hown rfl); have HB2 := Lib.hid (HB1.out.trans (hb2.mono HB1.out.size)); have HR2 := Lib.hid (HR1.out.below hb2); have HT2 := Lib.hid (HT1.out.below hb2 (Nat.le_refl _)); clear hown hb2)
  refine (new_pro l _ _ HO.out HT2.out).mono ?_
  rintro e w3 ⟨hb3, h⟩
  have HB3 := Lib.hid (HB2.out.trans (hb3.mono HB2.out.size))
  have HR3 := Lib.hid (HR2.out.below hb3)
  have HT3 := Lib.hid (HT2.out.below hb3 (Nat.le_refl _))
  clear hb3
  rcases h with ⟨_, rfl⟩ | ⟨_, k, hk, _, hne, rfl⟩ | ⟨hlen, hG, b, nv, gv, mv, sv, hbb, hTb, rfl⟩
  · go_wp2_with fail
    go_ret
    exact ⟨rfl, HB3.out⟩
  · obtain ⟨er, her⟩ : ∃ er, errAt l k = er := ⟨_, rfl⟩
    rw [her] at hne ⊢
    have t1 : (er != 0) = true := by simpa using hne
    clear hne her
    go_wp2_with fail
    go_ret
    exact ⟨rfl, HB3.out⟩
  · have HP3 := Lib.hid (show TP w3 (.pointer (some ⟨b, 0, none⟩)) l from .inr ⟨b, nv, gv, mv, sv, rfl, hTb⟩)
    have HG := Lib.hid hG
    clear hlen hG hbb hTb
    by_cases hbig : 60 < l.length
    · have hbz : (60 : Int) < l.length := by omega
      clear hbig
      go_wp2_with fail
      go_ret
      exact ⟨rfl, HB3.out⟩
    · have hbz : ¬ (60 : Int) < l.length := by omega
      have HBIG := Lib.hid (show l.length ≤ 60 by omega)
      clear hbig
      go_wp2_with fail
      refine (len_pro l _ _ HP3.out).mono ?_
      rintro e w4 ⟨rfl, rfl⟩
      go_wp2_with fail
      go_loopw [43] (fun i wr => ∃ k : Nat, i = .int .i64 k ∧ k ≤ l.length ∧ Below w3.heap.size w3 wr) (fun i _ => l.length - (intOf i).toNat)
      case atStart => exact ⟨0, rfl, Nat.zero_le _, Below.refl _ _⟩
      case round =>
        obtain ⟨k, rfl, hk, hB⟩ := hrel
        have HB := Lib.hid hB
        have HBW := Lib.hid (HB3.out.trans (hB.mono HB3.out.size))
        by_cases hlt : k < l.length
        · obtain ⟨lb, lo, rfl, hci⟩ := (HR3.out.below hB).cell hlt
          have HP5 := Lib.hid (HP3.out.below hB)
          have HT5 := Lib.hid (HT3.out.below hB (Nat.le_refl _))
          have HFS := Lib.hid (find_self HG.out hlt)
          have HNS := Lib.hid (near_self HG.out hlt)
          have HPS := Lib.hid (prefix_self HG.out hlt)
          have HFB := Lib.hid (fun h => find_blank HG.out hlt h)
          have hxs : l[k].size ≤ 64 := HG.out.size hlt hlt
          have HPN := Lib.hid (show (prefixN l l[k]).length ≤ 60 by
            have h1 := HBIG.out
            unfold prefixN
            split
            · have := fltP_len l (fold l[k]) (srt l)
              rw [srt_len] at this
              omega
            · simp)
          obtain ⟨x, hx⟩ : ∃ x, l[k] = x := ⟨_, rfl⟩
          rw [hx] at hci HFS HNS HPS HFB hxs HPN
          have HXS := Lib.hid hxs
          have HLT := Lib.hid hlt
          have hk1 : (k : Int) < l.length := by omega
          obtain ⟨W5, rfl⟩ : ∃ W5 : World, W5 = wr := ⟨_, rfl⟩
          clear hB hx hlt hxs
          go_wp2_with fail
          refine (find_pro l _ x _ HP5.out HG.out HT5.out).mono ?_
          rintro e w6 ⟨he, hb6⟩
          rw [HFS.out] at he
          subst he
          simp only [Option.getD_some, Option.isSome_some]
          have HB6 := Lib.hid (HB.out.trans (hb6.mono HB.out.size))
          have HP6 := Lib.hid (HP5.out.below hb6)
          have HT6 := Lib.hid (HT5.out.below hb6 (Nat.le_refl _))
          clear hb6
          go_wp2_with fail
          refine (near_pro l _ x _ HP6.out (by have := HBIG.out; omega) HT6.out).mono ?_
          rintro e w7 ⟨vn, rfl, hon, hb7⟩
          rw [HNS.out] at hon
          obtain ⟨pn, cn, rfl⟩ := lenOf hon
          have HN7 := Lib.hid (RdI.own hon rfl)
          have HB7 := Lib.hid (HB6.out.trans (hb7.mono HB6.out.size))
          have HP7 := Lib.hid (HP6.out.below hb7)
          have HT7 := Lib.hid (HT6.out.below hb7 (Nat.le_refl _))
          clear hon hb7
          go_wp2_with fail
          refine (prefix_pro l _ x _ HP7.out (by have := HBIG.out; omega) (by have := HXS.out; omega) HT7.out).mono ?_
          rintro e w8 ⟨vp, rfl, hop, hb8⟩
          obtain ⟨zs, hzs⟩ : ∃ zs, prefixN l x = zs := ⟨_, rfl⟩
          rw [hzs] at hop HPS HPN
          obtain ⟨pp, cp, rfl⟩ := lenOf hop
          have HZ8 := Lib.hid (RdI.own hop rfl)
          have HN8 := Lib.hid (HN7.out.below hb8)
          have HB8 := Lib.hid (HB7.out.trans (hb8.mono HB7.out.size))
          have HP8 := Lib.hid (HP7.out.below hb8)
          have HT8 := Lib.hid (HT7.out.below hb8 (Nat.le_refl _))
          clear hop hb8 hzs
          obtain ⟨nz, hnz⟩ : ∃ nz, zs.length = nz := ⟨_, rfl⟩
          have HNZ := Lib.hid hnz
          rw [hnz] at HZ8 ⊢
          clear hnz
          go_wp2_with fail
          go_loopw [61, 11] (fun i am wr => ∃ j : Nat, i = .int .i64 j ∧ j ≤ nz ∧ am = .bool (decide (k ∈ zs.take j)) ∧ wr = w8) (fun i _ _ => nz - (intOf i).toNat)
          case atStart => exact ⟨0, rfl, Nat.zero_le _, rfl, rfl⟩
          case round =>
            obtain ⟨j, rfl, hj, rfl, rfl⟩ := hrel
            by_cases hjt : j < nz
            · have hjz : j < zs.length := by rw [HNZ.out]; exact hjt
              obtain ⟨zb, zo, rfl, hcz⟩ := HZ8.out.cell hjz
              have HAS := Lib.hid (among_step (i := k) hjz)
              obtain ⟨z, hz⟩ : ∃ z, zs[j] = z := ⟨_, rfl⟩
              rw [hz] at hcz HAS
              have hj1 : (j : Int) < nz := by omega
              have HNN := Lib.hid HPN.out
              have hnz60 : nz ≤ 60 := by have := HNN.out; have := HNZ.out; omega
              have HJT := Lib.hid hjt
              obtain ⟨am, ham⟩ : ∃ am, decide (k ∈ zs.take j) = am := ⟨_, rfl⟩
              rw [ham] at HAS ⊢
              clear hjz hz hjt ham
              cases am with
              | true =>
                go_wp2_with fail
                go_roundw
                case measure => have := HJT.out; simp [intOf]; omega
                case rel => exact ⟨j + 1, by go_num, HJT.out, by rw [HAS.out]; rfl, trivial⟩
              | false =>
                go_wp2_with fail
                go_roundw
                case measure => have := HJT.out; simp [intOf]; omega
                case rel => exact ⟨j + 1, by go_num, HJT.out, by rw [HAS.out]; rfl, trivial⟩
            · obtain rfl : j = nz := by omega
              have hlz : ¬ ((j : Int) < j) := by omega
              rw [show zs.take j = zs by rw [← HNZ.out]; exact List.take_length, show decide (k ∈ zs) = true from decide_eq_true HPS.out]
              obtain ⟨nb, no, rfl, hcn⟩ := HN8.out.cell (j := 0) (by simp)
              simp only [List.getElem_cons_zero, Nat.add_zero] at hcn
              have HJ := Lib.hid hj
              have hfx := HXS.out
              clear hjt hj
              by_cases hsz : x.size + 2 ≤ 64
              · have v1 : IntKind.i64.wrap ((x.size : Int) + 2) = x.size + 2 := IntWalk.i64_in _ (by omega)
                have q1 : (x.size : Int) + 2 ≤ 64 := by omega
                have HFX := Lib.hid (HFB.out hsz)
                clear hsz
                go_wp2_with fail
                refine (find_pro l _ (spB ++ x ++ spB) _ HP8.out HG.out HT8.out).mono ?_
                rintro e w9 ⟨he, hb9⟩
                rw [HFX.out] at he
                subst he
                simp only [Option.getD_some, Option.isSome_some]
                have HB9 := Lib.hid (HB8.out.trans (hb9.mono HB8.out.size))
                clear hb9
                go_wp2_with fail
                go_roundw
                case measure => have := HLT.out; simp [intOf]; omega
                case rel => exact ⟨k + 1, by go_num, HLT.out, HB9.out⟩
              · have v1 : IntKind.i64.wrap ((x.size : Int) + 2) = x.size + 2 := IntWalk.i64_in _ (by omega)
                have q1 : ¬ (x.size : Int) + 2 ≤ 64 := by omega
                clear hsz
                go_wp2_with fail
                go_roundw
                case measure => have := HLT.out; simp [intOf]; omega
                case rel => exact ⟨k + 1, by go_num, HLT.out, HB8.out⟩
        · obtain rfl : k = l.length := by omega
          have hlz : ¬ ((l.length : Int) < l.length) := by omega
          clear hB hlt
          go_wp2_with fail
          go_ret
          exact ⟨rfl, HBW.out⟩

set_option maxRecDepth 100000 in
theorem contract (H : Type) (enc : TypeId × Value → H) (W : World) (base : Nat) (args : Array Value) (ds gs : List (DataW H)) (before : List MemPlace)
    (hval : ∀ (j : Nat) t v, Tryd.f4.params[j]? = some t → args[j]? = some v → Value.okWide Tryd.prog W .any base t v)
    (hW : DataW.Whole enc Tryd.prog Tryd.f4.params.toList Rows.namesFoundSpec.vars false W args.toList ds gs before) (hsz0 : (DataW.weightsEach Tryd.prog (Tryd.f4.params.toList ++ Rows.namesFoundSpec.plain.varTypes Tryd.prog) (ds ++ gs)).all (· ≤ reachBytes) = true) (hT : Tabs W) :
    Calls Tryd.prog 4 args W fun e W' => ∃ v, e = .returned v ∧ Rows.namesFoundSpec.post enc Tryd.prog Tryd.f4 false true false false W args v W' := by
  have hW' := hW
  obtain ⟨p, q, hA0, hV, rfl, hfz, hnd⟩ := hW
  have hA : DataW.TrodAll enc Tryd.prog W 0 (fun _ => true) true Tryd.f4.params.toList args.toList ds p := hA0
  rw [Tryd.params4] at hA hval
  have hsz := hsz0
  rw [Tryd.params4] at hsz
  clear hsz0
  obtain ⟨v0, vs0, d0, ds0, p0, q0, hargs, rfl, rfl, h0, r0⟩ := trodAll_cons hA
  obtain ⟨rfl, rfl, rfl⟩ := trodAll_nil r0
  obtain rfl : args = #[v0] := by cases args; simp_all
  obtain ⟨rfl, rfl⟩ := trodVars_none hV
  have hk0 := h0
  obtain ⟨l0, hR0, hD0⟩ := texts_read h0 (okWide_slice Tryd.underlying24 (hval 0 24 v0 rfl rfl))
  clear hA0
  have size0 := texts_reach hsz (j := 0) rfl rfl hD0
  refine (walk v0 l0 W hR0 size0 hT).mono fun e W' ⟨he, hg⟩ => ?_
  subst he
  have hlt := hW'.lt
  exact ⟨_, rfl, post_of_below (pa := (p0 ++ [])) (pv := []) hW' (fun _ _ _ => trodAll_cons_mk (shut_bool Tryd.underlying4 _) trodAll_mk0) (fun sp hsp => (trodAll_cons_mk (Go.WideElems.Trod_stays (by kernel_rfl) (by kernel_rfl) (of_decide_eq_true (by kernel_rfl)) hk0 (fun p hp => hg.same (hlt p (by simp [hp]))) (fun p hp => hsp p (by simp [hp]))) trodAll_mk0)) (fun _ _ => rfl) rfl hg (ok_one (by kernel_rfl) rfl (okWide_bool_mk Tryd.underlying4 _))⟩

theorem witness_row (os : Os) {H : Type} (enc : TypeId × Value → H) :
    (OpenSpec.ofChange Rows.namesFoundSpec).preRow enc Tryd.prog Tryd.f4 Rows.namesFoundRow.domain false Rows.namesFoundRow.laid ((laidWorld os).forCall (fun _ _ => 0) ⟨#[], #[.slice none 0 0], []⟩).memory #[.slice none 0 0] := by
  have hw : (DataW.whole enc Tryd.prog ((laidWorld os).forCall (fun _ _ => 0) ⟨#[], #[.slice none 0 0], []⟩).memory Tryd.f4.params.toList Rows.namesFoundSpec.vars false (#[.slice none 0 0] : Array Value).toList 8).map (fun x => (x.1, x.2.1)) =
      some ([.nil], []) := by kernel_rfl
  obtain ⟨⟨x1, x2, x3⟩, hx, hx1⟩ := Option.map_eq_some_iff.1 hw
  simp only [Prod.mk.injEq] at hx1
  obtain ⟨rfl, rfl⟩ := hx1
  exact OpenSpec.preRow_of_cond 8 hx (by kernel_rfl) (fun k hk => by cases hk) (by kernel_rfl) (laid_met os _)

set_option maxRecDepth 100000 in
theorem lifted (os : Os) (started : os.Started) (H : Type) (enc : TypeId × Value → H) (F : Stop.Interp) :
    ReturnsInHanded {} Tryd.checked os 4 .any ((OpenSpec.ofChange Rows.namesFoundSpec).preRow enc Tryd.prog Tryd.f4 Rows.namesFoundRow.domain false Rows.namesFoundRow.laid) (((OpenSpec.ofChange Rows.namesFoundSpec).at F).post enc Tryd.prog Tryd.f4 false true false false) := by
  refine returnsInHanded_of_row (C := Tryd.checked) (s := (OpenSpec.ofChange Rows.namesFoundSpec)) own started (by kernel_rfl) Tryd.func4
    (witness_row_at (enc := enc) (C := Tryd.checked) false (laidWorld os) #[.slice none 0 0] rfl (by kernel_rfl) (by kernel_rfl) (by kernel_rfl) (witness_row os enc)) ?_
  intro W base args ds gs before hval hW _ hcond hsz hL hS _
  exact contract H enc W base args ds gs before hval hW hsz (tabs_of hL hS)

set_option maxHeartbeats 16000000 in
theorem closed : joinedFacts Tryd.pinned.checked.prog 4 Tryd.f4 ((OpenSpec.ofChange Rows.namesFoundSpec)).bare Rows.namesFoundRow = true := by
  unfold joinedFacts
  repeat' (with_reducible refine Bool.and_eq_true_iff.2 ⟨?_, ?_⟩)
  all_goals (as_aux_lemma => kernel_rfl)
theorem named : Tryd.pinned.checked.prog.funcNamed Rows.namesFoundRow.func = some 4 := by kernel_rfl
theorem inst : (Tryd.f4).isInstance Tryd.pinned.checked.prog Rows.namesFoundRow.origin Rows.namesFoundRow.targs := of_decide_eq_true (by kernel_rfl)
theorem wrap : (Tryd.f4).isWrapper Tryd.pinned.checked.prog Rows.namesFoundRow.wrapper Rows.namesFoundRow.mainSum := by
  unfold Func.isWrapper
  first | (rw [if_pos (by decide +kernel)]; kernel_rfl) | (rw [if_neg (by decide +kernel)]; exact ⟨rfl, rfl⟩)
theorem row : Rows.NamesFoundSaid :=
  OpenClaim.holds_of_cond 4 Tryd.f4 rfl rfl rfl rfl rfl rfl rfl ⟨rfl, rfl, rfl, rfl, rfl⟩ rfl rfl rfl rfl rfl named Tryd.func4 closed inst wrap
    (fun os started H enc _ F => by rw [OpenClaim.pre_eq_preRow]; exact lifted os started H enc F)

theorem plain (f : FuncId) (fn : Func) (hf : Tryd.pinned.checked.prog.funcNamed Rows.namesFoundRow.func = some f) (hfn : Tryd.pinned.checked.prog.funcs[f]? = some fn) :
    false = Tryd.pinned.checked.prog.looks [] ∧ ∀ (j : Nat) t, fn.params[j]? = some t → Tryd.pinned.checked.prog.wantsStandIn t = false := by
  obtain rfl : f = 4 := Option.some.inj ((show Tryd.prog.funcNamed Rows.namesFoundRow.func = some 4 by kernel_rfl).symm.trans hf) |>.symm
  obtain rfl : fn = Tryd.f4 := (Option.some.inj (Tryd.func4.symm.trans hfn)).symm
  refine ⟨by kernel_rfl, fun j t ht => ?_⟩
  rw [Tryd.params4] at ht
  have hm : t ∈ [24] := by simpa using Array.mem_of_getElem? ht
  simp only [List.mem_cons, List.mem_nil_iff, or_false] at hm
  subst hm
  exact (show Tryd.prog.wantsStandIn 24 = false by kernel_rfl)

theorem proved : Rows.NamesFoundCardSaid :=
  Claim7.holds_tied_plain_at .later [] _ _ _ _ row (fun _ h => by cases h) (by kernel_rfl) (fun _ h => by cases h) namesFound_row_tie rfl ⟨rfl, rfl⟩ (by kernel_rfl) rfl plain (by kernel_rfl)
end Go.Proofs.YtaikecdafcmdaaaDoor.namesFound
