/- What is proved: NamesNorms holds of every text and every list of sources, with no bound: the program's Norm and Collect answer as the document's do. -/
import Derived.Test.YtjgcbobalmmjkaaGreatDoorNz
import Derived.Test.YtjgcbobalmmjkaaGreatDoorNk
import Derived.Test.YtjgcbobalmmjkaaGreatDoorPost
import Derived.Test.YtjgcbobalmmjkaaGreatDoorCards
import Derived.Test.YtjgcbobalmmjkaaGreatDoorTie
import Derived.ProofKit
import Derived.OpenShut
import Derived.Deep.DeepHandedRow
import Derived.Lib.QuietBelow
namespace Go.Proofs.YtjgcbobalmmjkaaGreatDoor.namesNorms
open Go.ChangeShapes Go.WideShapes Go.ChangeAt Go.RowKit Go.Maps Go.Sort
open Go.ChangeMaps (open_string shut_string)
set_option linter.unusedVariables false

set_option maxRecDepth 100000 in
set_option maxHeartbeats 1000000 in
theorem told_nil (w : World) : Calls Tryz.prog 12 #[.nilIface] w fun e w' => e = .returned Flt0.val ∧ Below w.heap.size w w' := by
  go_enter Tryz.func12, Tryz.ntmps12
  go_wp2_with fail
  exact bodyPost_ret (v := Flt0.val) (by simp [results, Tryz.f12, go_sem, Flt.val, Flt0]; rfl) rfl ⟨rfl, by first | exact Below.refl _ _ | exact (Below.refl _ _).alloc (Nat.le_refl _) _⟩
theorem flt_cells {W : World} {g : Nat} {f : Flt} (h : W.heap[g]? = some (.cells #[.int .i64 f.code, .int .i64 f.source, .int .i64 f.line, .int .i64 f.col, .string f.word, .slice none 0 0] 36 (0, 0))) : W.cell? ⟨g, 0, none⟩ = some (.int .i64 f.code) ∧ W.cell? ⟨g, 1, none⟩ = some (.int .i64 f.source) ∧ W.cell? ⟨g, 2, none⟩ = some (.int .i64 f.line) ∧ W.cell? ⟨g, 3, none⟩ = some (.int .i64 f.col) ∧ W.cell? ⟨g, 4, none⟩ = some (.string f.word) ∧ W.cell? ⟨g, 5, none⟩ = some (.slice none 0 0) := by
  refine ⟨?_, ?_, ?_, ?_, ?_, ?_⟩ <;> (rw [cell_of_row _ g _ _ _ _ h]; rfl)

set_option maxRecDepth 100000 in
set_option maxHeartbeats 8000000 in
theorem walk (s : ByteArray) (v : Value) (ss : List Srm) (W : World) (hs : s.size ≤ maxLen) (hR : RdSr W v ss) (hl : ss.length ≤ 4611686018427387904 ∧ ∀ s ∈ ss, s.ts.length ≤ 140737488355328) (hT : Tabs W) :
    Calls Tryz.prog 3 #[.string s, v] W fun e w' => e = .returned (.bool true) ∧ Below W.heap.size W w' := by
  obtain ⟨pa, cap, rfl⟩ := hR.form
  have HR := Lib.hid hR
  have HT := Lib.hid hT
  have HL1 := Lib.hid hl.1
  have HL2 := Lib.hid hl.2
  clear hR hT hl hs
  go_enter Tryz.func3, Tryz.ntmps3
  go_wp2_with fail
  refine (awake_law _ HT.out).mono ?_
  rintro e w1 ⟨rfl, h1⟩
  have HB1 := Lib.hid h1
  have HR1 := Lib.hid (HR.out.below h1)
  have HT1 := Lib.hid (HT.out.below h1 (Nat.le_refl _))
  clear h1
  go_wp2_with fail
  refine (norm_pro s _ HT1.out).mono ?_
  rintro e w2 ⟨he, h2⟩
  have HB2 := Lib.hid (HB1.out.trans (h2.mono HB1.out.size))
  have HR2 := Lib.hid (HR1.out.below h2)
  have HT2 := Lib.hid (HT1.out.below h2 (Nat.le_refl _))
  have HN := Lib.hid (norm_ref s)
  obtain ⟨n1, hn1⟩ : ∃ n1, (nrm s).1 = n1 := ⟨_, rfl⟩
  obtain ⟨n2, hn2⟩ : ∃ n2, (nrm s).2 = n2 := ⟨_, rfl⟩
  rw [hn1, hn2] at he
  subst he
  have HN1 := Lib.hid hn1
  have HN2 := Lib.hid hn2
  clear h2 hn1 hn2
  go_wp2_with fail
  refine (HN.out _).mono ?_
  rintro e w3 ⟨he, h3⟩
  rw [HN1.out, HN2.out] at he
  subst he
  have HB3 := Lib.hid (HB2.out.trans (h3.mono HB2.out.size))
  have HR3 := Lib.hid (HR2.out.below h3)
  have HT3 := Lib.hid (HT2.out.below h3 (Nat.le_refl _))
  clear h3
  go_wp2_with fail
  refine (collect_pro ss _ _ HR3.out HT3.out HL1.out HL2.out).mono ?_
  rintro e w4 h4
  obtain ⟨hb4, h4⟩ := h4.told
  have HB4 := Lib.hid (HB3.out.trans (hb4.mono HB3.out.size))
  have HR4 := Lib.hid (HR3.out.below hb4)
  have mixed : Tryz.prog.follows .mixedOrders = true := by kernel_rfl
  clear hb4
  rcases h4 with ⟨g, f, hf, rfl, hE⟩ | ⟨hf, hle, dv, rfl, hD⟩
  · have HE4 := Lib.hid hE
    have HF := Lib.hid hf
    clear hE hf
    unfold errV
    go_wp2_with fail
    refine (collect_ref ss _ _ HR4.out HL1.out HL2.out).mono ?_
    rintro e w5 ⟨hb5, h5⟩
    rcases h5 with ⟨f', hf', hc, rfl⟩ | ⟨hf', _⟩
    · obtain rfl : f' = f := by have := HF.out.symm.trans hf'; simpa using this.symm
      have HB5 := Lib.hid (HB4.out.trans (hb5.mono HB4.out.size))
      have HE5 := Lib.hid (HE4.out.below hb5)
      have hc0 : (f'.code == 0) = false := by simpa using hc
      have HCZ := Lib.hid hc
      clear hb5 hf' hc
      unfold Flt.val
      go_wp2_with fail
      obtain ⟨W2, hW2⟩ : ∃ W2, w5.alloc (.cells #[.int .i64 f'.code, .int .i64 f'.source, .int .i64 f'.line, .int .i64 f'.col, .string f'.word, .slice none 0 0] 36) = W2 := ⟨_, rfl⟩
      have hA : Below w5.heap.size w5 W2 := by rw [← hW2]; exact (Below.refl _ _).alloc (Nat.le_refl _) _
      have hX : W2.heap[w5.heap.size]? = some (.cells #[.int .i64 f'.code, .int .i64 f'.source, .int .i64 f'.line, .int .i64 f'.col, .string f'.word, .slice none 0 0] 36 (0, 0)) := by rw [← hW2]; exact World.alloc_heap_new _ _
      obtain ⟨z0, z1, z2, z3, z4, z5⟩ := flt_cells hX
      have k0 := cell_regrown z0
      have k1 := cell_regrown z1
      have k2 := cell_regrown z2
      have k3 := cell_regrown z3
      have k4 := cell_regrown z4
      have k5 := cell_regrown z5
      have HE6 := Lib.hid (HE5.out.below hA)
      have HB6 := Lib.hid (HB5.out.trans (hA.mono HB5.out.size))
      have cT : ∀ d os, Calls Tryz.prog 12 #[.iface 98 (.pointer (some ⟨g, 0, none⟩))] (grow (redrawn W2 d) os) fun e w'' => e = .returned f'.val ∧ ∃ p : Regrown, w'' = grow (redrawn W2 p.d) p.os :=
        fun d os => Calls.regrown_of (v := f'.val) (toldof_pro g f' _ (HE6.out.below (below_regrown W2 d os)))
      have cS : ∀ d os, Calls Tryz.prog 11 #[f'.val, f'.val] (grow (redrawn W2 d) os) fun e w'' => e = .returned (.bool true) ∧ ∃ p : Regrown, w'' = grow (redrawn W2 p.d) p.os :=
        fun d os => Calls.regrown_of (v := .bool true) (same_ref f' _)
      have cM : ∀ d os, Calls Tryz.prog 13 #[.slice none 0 0, .slice none 0 0] (grow (redrawn W2 d) os) fun e w'' => e = .returned (.bool true) ∧ ∃ p : Regrown, w'' = grow (redrawn W2 p.d) p.os :=
        fun d os => Calls.regrown_of (v := .bool true) (same_law [] _ _ _ ⟨none, 0, rfl, fun j hj => absurd hj (by simp)⟩ ⟨none, 0, rfl, fun j hj => absurd hj (by simp)⟩ (by simp))
      unfold Flt.val at cT cS
      rw [hW2]
      clear hA hX hW2 z0 z1 z2 z3 z4 z5
      obtain ⟨g5, hg5⟩ : ∃ g5, w5.heap.size = g5 := ⟨_, rfl⟩
      rw [hg5] at k0 k1 k2 k3 k4 k5 ⊢
      clear hg5
      go_wp2_with fail
      refine wp_region_quiet_below (by assumption) (by kernel_rfl) ?_
      repeat (quiet_step (first | with_reducible exact cT _ _ | with_reducible exact cS _ _ | with_reducible exact cM _ _))
      refine wpQuiet_nil ?_
      intro _ hw'
      obtain ⟨⟨dq, osq⟩, hw''⟩ := hw'
      subst hw''
      have HB7 := Lib.hid (HB6.out.trans ((below_regrown W2 dq osq).mono HB6.out.size))
      clear k0 k1 k2 k3 k4 k5 cT cS cM
      go_wp2_with fail
      go_ret
      exact ⟨rfl, HB7.out⟩
    · rw [HF.out] at hf'; cases hf'
  · have HF := Lib.hid hf
    have HD4 := Lib.hid hD
    have HLE := Lib.hid hle
    obtain ⟨pd, cd, rfl⟩ := hD.form
    clear hD hf hle
    go_wp2_with fail
    refine (collect_ref ss _ _ HR4.out HL1.out HL2.out).mono ?_
    rintro e w5 ⟨hb5, h5⟩
    rcases h5 with ⟨f', hf', _⟩ | ⟨_, du, rfl, hU⟩
    · rw [HF.out] at hf'; cases hf'
    · have HB5 := Lib.hid (HB4.out.trans (hb5.mono HB4.out.size))
      have HD5 := Lib.hid (HD4.out.below hb5)
      have HU5 := Lib.hid hU
      obtain ⟨pu, cu, rfl⟩ := hU.form
      obtain ⟨LL, hLL⟩ : ∃ LL, entsS ss ss.length = LL := ⟨_, rfl⟩
      rw [hLL] at HD5 HU5 HLE ⊢
      clear hb5 hU hLL
      unfold Flt0 Flt.val
      go_wp2_with fail
      obtain ⟨W2, hW2⟩ : ∃ W2, w5.alloc (.cells #[.int .i64 0, .int .i64 0, .int .i64 0, .int .i64 0, .string .empty, .slice none 0 0] 36) = W2 := ⟨_, rfl⟩
      have hA : Below w5.heap.size w5 W2 := by rw [← hW2]; exact (Below.refl _ _).alloc (Nat.le_refl _) _
      have hX : W2.heap[w5.heap.size]? = some (.cells #[.int .i64 0, .int .i64 0, .int .i64 0, .int .i64 0, .string .empty, .slice none 0 0] 36 (0, 0)) := by rw [← hW2]; exact World.alloc_heap_new _ _
      obtain ⟨z0, z1, z2, z3, z4, z5⟩ := flt_cells (f := Flt0) hX
      unfold Flt0 at z0 z1 z2 z3 z4
      dsimp only at z0 z1 z2 z3 z4
      have k0 := cell_regrown z0
      have k1 := cell_regrown z1
      have k2 := cell_regrown z2
      have k3 := cell_regrown z3
      have k4 := cell_regrown z4
      have k5 := cell_regrown z5
      have HD6 := Lib.hid (HD5.out.below hA)
      have HU6 := Lib.hid (HU5.out.below hA)
      have HB6 := Lib.hid (HB5.out.trans (hA.mono HB5.out.size))
      have cT : ∀ d os, Calls Tryz.prog 12 #[.nilIface] (grow (redrawn W2 d) os) fun e w'' => e = .returned Flt0.val ∧ ∃ p : Regrown, w'' = grow (redrawn W2 p.d) p.os :=
        fun d os => Calls.regrown_of (v := Flt0.val) (told_nil _)
      have cS : ∀ d os, Calls Tryz.prog 11 #[Flt0.val, Flt0.val] (grow (redrawn W2 d) os) fun e w'' => e = .returned (.bool true) ∧ ∃ p : Regrown, w'' = grow (redrawn W2 p.d) p.os :=
        fun d os => Calls.regrown_of (v := .bool true) (same_ref Flt0 _)
      have cM : ∀ d os, Calls Tryz.prog 13 #[.slice pd LL.length cd, .slice pu LL.length cu] (grow (redrawn W2 d) os) fun e w'' => e = .returned (.bool true) ∧ ∃ p : Regrown, w'' = grow (redrawn W2 p.d) p.os :=
        fun d os => Calls.regrown_of (v := .bool true) (same_law LL _ _ _ (HD6.out.below (below_regrown W2 d os)) (HU6.out.below (below_regrown W2 d os)) HLE.out)
      unfold Flt0 Flt.val at cT cS
      dsimp only at cT cS
      rw [hW2]
      clear hA hX hW2 z0 z1 z2 z3 z4 z5
      obtain ⟨g5, hg5⟩ : ∃ g5, w5.heap.size = g5 := ⟨_, rfl⟩
      rw [hg5] at k0 k1 k2 k3 k4 k5 ⊢
      clear hg5
      go_wp2_with fail
      refine wp_region_quiet_below (by assumption) (by kernel_rfl) ?_
      repeat (quiet_step (first | with_reducible exact cT _ _ | with_reducible exact cS _ _ | with_reducible exact cM _ _))
      refine wpQuiet_nil ?_
      intro _ hw'
      obtain ⟨⟨dq, osq⟩, hw''⟩ := hw'
      subst hw''
      have HB7 := Lib.hid (HB6.out.trans ((below_regrown W2 dq osq).mono HB6.out.size))
      clear k0 k1 k2 k3 k4 k5 cT cS cM
      go_wp2_with fail
      go_ret
      exact ⟨rfl, HB7.out⟩

set_option maxRecDepth 100000 in
theorem contract (H : Type) (enc : TypeId × Value → H) (W : World) (base : Nat) (args : Array Value) (ds gs : List (DataW H)) (before : List MemPlace)
    (hval : ∀ (j : Nat) t v, Tryz.f3.params[j]? = some t → args[j]? = some v → Value.okWide Tryz.prog W .any base t v)
    (hW : DataW.Whole enc Tryz.prog Tryz.f3.params.toList Rows.namesNormsSpec.vars false W args.toList ds gs before) (hsz0 : (DataW.weightsEach Tryz.prog (Tryz.f3.params.toList ++ Rows.namesNormsSpec.plain.varTypes Tryz.prog) (ds ++ gs)).all (· ≤ reachBytes) = true) (hT : Tabs W) :
    Calls Tryz.prog 3 args W fun e W' => ∃ v, e = .returned v ∧ Rows.namesNormsSpec.post enc Tryz.prog Tryz.f3 false true false false W args v W' := by
  have hW' := hW
  obtain ⟨p, q, hA0, hV, rfl, hfz, hnd⟩ := hW
  have hA : DataW.TrodAll enc Tryz.prog W 0 (fun _ => true) true Tryz.f3.params.toList args.toList ds p := hA0
  rw [Tryz.params3] at hA hval
  have hsz := hsz0
  rw [Tryz.params3] at hsz
  clear hsz0
  obtain ⟨v0, vs0, d0, ds0, p0, q0, hargs, rfl, rfl, h0, r0⟩ := trodAll_cons hA
  obtain ⟨v1, vs1, d1, ds1, p1, q1, rfl, rfl, rfl, h1, r1⟩ := trodAll_cons r0
  obtain ⟨rfl, rfl, rfl⟩ := trodAll_nil r1
  obtain rfl : args = #[v0, v1] := by cases args; simp_all
  obtain ⟨rfl, rfl⟩ := trodVars_none hV
  obtain ⟨s0, rfl, rfl, rfl, hm0⟩ := open_string Tryz.underlying9 (hval 0 9 v0 rfl rfl) h0
  have hk1 := h1
  obtain ⟨l1, hR1, hD1⟩ := srcs_read h1 (okWide_slice Tryz.underlying22 (hval 1 22 v1 rfl rfl))
  clear hA0
  have size1 := srcs_reach hsz (j := 1) rfl rfl hD1
  refine (walk s0 v1 l1 W hm0 hR1 size1 hT).mono fun e W' ⟨he, hg⟩ => ?_
  subst he
  have hlt := hW'.lt
  exact ⟨_, rfl, post_of_below (pa := ([] ++ (p1 ++ []))) (pv := []) hW' (fun _ _ _ => trodAll_cons_mk (shut_bool Tryz.underlying4 _) trodAll_mk0) (fun sp hsp => (trodAll_cons_mk (shut_string Tryz.underlying9 hm0) (trodAll_cons_mk (Go.WideElems.Trod_stays (by kernel_rfl) (by kernel_rfl) (of_decide_eq_true (by kernel_rfl)) hk1 (fun p hp => hg.same (hlt p (by simp [hp]))) (fun p hp => hsp p (by simp [hp]))) trodAll_mk0))) (fun _ _ => rfl) rfl hg (ok_one (by kernel_rfl) rfl (okWide_bool_mk Tryz.underlying4 _))⟩

theorem witness_row (os : Os) {H : Type} (enc : TypeId × Value → H) :
    (OpenSpec.ofChange Rows.namesNormsSpec).preRow enc Tryz.prog Tryz.f3 Rows.namesNormsRow.domain false Rows.namesNormsRow.laid ((laidWorld os).forCall (fun _ _ => 0) ⟨#[], #[.string .empty, .slice none 0 0], []⟩).memory #[.string .empty, .slice none 0 0] := by
  have hw : (DataW.whole enc Tryz.prog ((laidWorld os).forCall (fun _ _ => 0) ⟨#[], #[.string .empty, .slice none 0 0], []⟩).memory Tryz.f3.params.toList Rows.namesNormsSpec.vars false (#[.string .empty, .slice none 0 0] : Array Value).toList 8).map (fun x => (x.1, x.2.1)) =
      some ([.lit (.string []), .nil], []) := by kernel_rfl
  obtain ⟨⟨x1, x2, x3⟩, hx, hx1⟩ := Option.map_eq_some_iff.1 hw
  simp only [Prod.mk.injEq] at hx1
  obtain ⟨rfl, rfl⟩ := hx1
  exact OpenSpec.preRow_of_cond 8 hx (by kernel_rfl) (fun k hk => by cases hk) (by kernel_rfl) (laid_met os _)

set_option maxRecDepth 100000 in
theorem lifted (os : Os) (started : os.Started) (H : Type) (enc : TypeId × Value → H) (F : Stop.Interp) :
    ReturnsInHanded {} Tryz.checked os 3 .any ((OpenSpec.ofChange Rows.namesNormsSpec).preRow enc Tryz.prog Tryz.f3 Rows.namesNormsRow.domain false Rows.namesNormsRow.laid) (((OpenSpec.ofChange Rows.namesNormsSpec).at F).post enc Tryz.prog Tryz.f3 false true false false) := by
  refine returnsInHanded_of_row (C := Tryz.checked) (s := (OpenSpec.ofChange Rows.namesNormsSpec)) own started (by kernel_rfl) Tryz.func3
    (witness_row_at (enc := enc) (C := Tryz.checked) false (laidWorld os) #[.string .empty, .slice none 0 0] rfl (by kernel_rfl) (by kernel_rfl) (by kernel_rfl) (witness_row os enc)) ?_
  intro W base args ds gs before hval hW _ hcond hsz hL hS _
  exact contract H enc W base args ds gs before hval hW hsz (tabs_of hL hS)

set_option maxHeartbeats 16000000 in
theorem closed : joinedFacts Tryz.pinned.checked.prog 3 Tryz.f3 ((OpenSpec.ofChange Rows.namesNormsSpec)).bare Rows.namesNormsRow = true := by
  unfold joinedFacts
  repeat' (with_reducible refine Bool.and_eq_true_iff.2 ⟨?_, ?_⟩)
  all_goals (as_aux_lemma => kernel_rfl)
theorem named : Tryz.pinned.checked.prog.funcNamed Rows.namesNormsRow.func = some 3 := by kernel_rfl
theorem inst : (Tryz.f3).isInstance Tryz.pinned.checked.prog Rows.namesNormsRow.origin Rows.namesNormsRow.targs := of_decide_eq_true (by kernel_rfl)
theorem wrap : (Tryz.f3).isWrapper Tryz.pinned.checked.prog Rows.namesNormsRow.wrapper Rows.namesNormsRow.mainSum := by
  unfold Func.isWrapper
  first | (rw [if_pos (by decide +kernel)]; kernel_rfl) | (rw [if_neg (by decide +kernel)]; exact ⟨rfl, rfl⟩)
theorem row : Rows.NamesNormsSaid :=
  OpenClaim.holds_of_cond 3 Tryz.f3 rfl rfl rfl rfl rfl rfl rfl ⟨rfl, rfl, rfl, rfl, rfl⟩ rfl rfl rfl rfl rfl named Tryz.func3 closed inst wrap
    (fun os started H enc _ F => by rw [OpenClaim.pre_eq_preRow]; exact lifted os started H enc F)

theorem plain (f : FuncId) (fn : Func) (hf : Tryz.pinned.checked.prog.funcNamed Rows.namesNormsRow.func = some f) (hfn : Tryz.pinned.checked.prog.funcs[f]? = some fn) :
    true = Tryz.pinned.checked.prog.looks [] ∧ ∀ (j : Nat) t, fn.params[j]? = some t → Tryz.pinned.checked.prog.wantsStandIn t = false := by
  obtain rfl : f = 3 := Option.some.inj ((show Tryz.prog.funcNamed Rows.namesNormsRow.func = some 3 by kernel_rfl).symm.trans hf) |>.symm
  obtain rfl : fn = Tryz.f3 := (Option.some.inj (Tryz.func3.symm.trans hfn)).symm
  refine ⟨by kernel_rfl, fun j t ht => ?_⟩
  rw [Tryz.params3] at ht
  have hm : t ∈ [9, 22] := by simpa using Array.mem_of_getElem? ht
  simp only [List.mem_cons, List.mem_nil_iff, or_false] at hm
  rcases hm with rfl | rfl
  · exact (show Tryz.prog.wantsStandIn 9 = false by kernel_rfl)
  · exact (show Tryz.prog.wantsStandIn 22 = false by kernel_rfl)

theorem proved : Rows.NamesNormsCardSaid :=
  Claim7.holds_tied_plain_at .later [] _ _ _ _ row (fun _ h => by cases h) (by kernel_rfl) (fun _ h => by cases h) namesNorms_row_tie rfl ⟨rfl, rfl⟩ (by kernel_rfl) rfl plain (by kernel_rfl)
end Go.Proofs.YtjgcbobalmmjkaaGreatDoor.namesNorms
