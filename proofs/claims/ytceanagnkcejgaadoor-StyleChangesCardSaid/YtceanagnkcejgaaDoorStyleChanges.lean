/- What is proved: StyleChanges holds of any two changes and any look: the program's Then and Apply say what the document's do. No condition but the form's own. -/
import Derived.Test.YtceanagnkcejgaaDoorSaw
import Derived.Test.YtceanagnkcejgaaDoorArg
import Derived.Test.YtceanagnkcejgaaDoorPost
import Derived.Test.YtceanagnkcejgaaDoorSLftd
import Derived.Test.YtceanagnkcejgaaDoorCards
import Derived.Test.YtceanagnkcejgaaDoorTie
import Derived.ProofKit
import Derived.OpenShut
import Derived.Deep.DeepHandedRow
import Derived.WideKeyArgs
namespace Go.Proofs.YtceanagnkcejgaaDoor.styleChanges
open Go.ChangeShapes Go.WideShapes Go.ChangeAt Go.RowKit
open Go.ChangeMaps (open_string shut_string)
set_option linter.unusedVariables false

/-- The three boxes of the call hold what came in. -/
def SC (B : Nat) (a b : Chg) (l : Lk) (w0 w : World) : Prop :=
  Below B w0 w ∧ w.heap[B]? = some (.cells #[.int .i64 a.on, .int .i64 a.off, .int .i64 a.col] 23 (0, 0)) ∧ w.heap[B + 1]? = some (.cells #[.int .i64 b.on, .int .i64 b.off, .int .i64 b.col] 23 (0, 0)) ∧ w.heap[B + 1 + 1]? = some (.cells #[.int .i64 l.att, .int .i64 l.col] 25 (0, 0))
theorem SC.below {B : Nat} {a b : Chg} {l : Lk} {w0 w w' : World} (h : SC B a b l w0 w) (hb : Below w.heap.size w w') : SC B a b l w0 w' := by
  obtain ⟨h0, h1, h2, h3⟩ := h
  exact ⟨h0.trans (hb.mono (Nat.le_of_lt (Array.getElem?_eq_some_iff.1 h1).1)), (hb.block B (Array.getElem?_eq_some_iff.1 h1).1).trans h1, (hb.block (B + 1) (Array.getElem?_eq_some_iff.1 h2).1).trans h2, (hb.block (B + 1 + 1) (Array.getElem?_eq_some_iff.1 h3).1).trans h3⟩
theorem SC.cells {B : Nat} {a b : Chg} {l : Lk} {w0 w : World} (h : SC B a b l w0 w) :
    w.cell? ⟨B, 0, none⟩ = some (.int .i64 a.on) ∧ w.cell? ⟨B, 1, none⟩ = some (.int .i64 a.off) ∧ w.cell? ⟨B, 2, none⟩ = some (.int .i64 a.col) ∧
    w.cell? ⟨B + 1, 0, none⟩ = some (.int .i64 b.on) ∧ w.cell? ⟨B + 1, 1, none⟩ = some (.int .i64 b.off) ∧ w.cell? ⟨B + 1, 2, none⟩ = some (.int .i64 b.col) ∧
    w.cell? ⟨B + 1 + 1, 0, none⟩ = some (.int .i64 l.att) ∧ w.cell? ⟨B + 1 + 1, 1, none⟩ = some (.int .i64 l.col) := by
  obtain ⟨_, h1, h2, h3⟩ := h
  refine ⟨?_, ?_, ?_, ?_, ?_, ?_, ?_, ?_⟩
  · rw [cell_of_row _ _ _ _ _ _ h1]; rfl
  · rw [cell_of_row _ _ _ _ _ _ h1]; rfl
  · rw [cell_of_row _ _ _ _ _ _ h1]; rfl
  · rw [cell_of_row _ _ _ _ _ _ h2]; rfl
  · rw [cell_of_row _ _ _ _ _ _ h2]; rfl
  · rw [cell_of_row _ _ _ _ _ _ h2]; rfl
  · rw [cell_of_row _ _ _ _ _ _ h3]; rfl
  · rw [cell_of_row _ _ _ _ _ _ h3]; rfl

set_option maxRecDepth 100000 in
set_option maxHeartbeats 4000000 in
theorem walk (a b : Chg) (l : Lk) (W : World) (ha : In64 a.on ∧ In64 a.off ∧ In64 a.col) (hb : In64 b.on ∧ In64 b.off ∧ In64 b.col) (hl : In64 l.att ∧ In64 l.col) (hT : Tabs W) :
    Calls Tryd.prog 3 #[chgVal a, chgVal b, lkVal l] W fun e W' => e = .returned (.bool true) ∧ Below W.heap.size W W' := by
  have HT := Lib.hid hT
  clear hT
  unfold chgVal lkVal
  go_enter Tryd.func3, Tryd.ntmps3
  go_wp2_with fail
  have hS0 : SC W.heap.size a b l W (((W.alloc (.cells #[.int .i64 a.on, .int .i64 a.off, .int .i64 a.col] 23)).alloc (.cells #[.int .i64 b.on, .int .i64 b.off, .int .i64 b.col] 23)).alloc (.cells #[.int .i64 l.att, .int .i64 l.col] 25)) := by
    refine ⟨(((Below.refl _ W).alloc (Nat.le_refl _) _).alloc (by simp) _).alloc (by simp; omega) _, ?_, ?_, ?_⟩
    · rw [Below.heap_alloc _ _ _ (by simp; omega), Below.heap_alloc _ _ _ (by simp)]; exact heap_alloc_new _ _
    · rw [Below.heap_alloc _ _ _ (by simp)]
      have := heap_alloc_new (W.alloc (.cells #[.int .i64 a.on, .int .i64 a.off, .int .i64 a.col] 23)) (.cells #[.int .i64 b.on, .int .i64 b.off, .int .i64 b.col] 23)
      simpa using this
    · have := heap_alloc_new ((W.alloc (.cells #[.int .i64 a.on, .int .i64 a.off, .int .i64 a.col] 23)).alloc (.cells #[.int .i64 b.on, .int .i64 b.off, .int .i64 b.col] 23)) (.cells #[.int .i64 l.att, .int .i64 l.col] 25)
      simpa using this
  obtain ⟨w0, hw0⟩ : ∃ w0, (((W.alloc (.cells #[.int .i64 a.on, .int .i64 a.off, .int .i64 a.col] 23)).alloc (.cells #[.int .i64 b.on, .int .i64 b.off, .int .i64 b.col] 23)).alloc (.cells #[.int .i64 l.att, .int .i64 l.col] 25)) = w0 := ⟨_, rfl⟩
  rw [hw0] at hS0 ⊢
  clear hw0
  obtain ⟨B, hB⟩ : ∃ B, W.heap.size = B := ⟨_, rfl⟩
  rw [hB] at hS0 ⊢
  have hS1 : SC B a b l W w0.drew := hS0.below (Below.refl _ _).drew
  refine wp_region_held_drew (S := SC B a b l W) (by kernel_rfl) hS1 (fun hS => ?_)
  have HBq := Lib.hid hB
  clear hS0 hS1 ha hb hl hB
  refine wpAnyH_take (i := 0) (v := .agg #[.int .i64 a.on, .int .i64 a.off, .int .i64 a.col]) rfl (by kernel_rfl) (by kernel_rfl) (by kernel_rfl) (fun _ _ _ h => h) (.inl ⟨by rfl, fun w' hS => by obtain ⟨x0, x1, x2, y0, y1, y2, z0, z1⟩ := hS.cells; go_simp⟩) hS ?_
  refine wpAnyH_take (i := 1) (v := .agg #[.int .i64 b.on, .int .i64 b.off, .int .i64 b.col]) rfl (by kernel_rfl) (by kernel_rfl) (by kernel_rfl) (fun _ _ _ h => h) (.inl ⟨by rfl, fun w' hS => by obtain ⟨x0, x1, x2, y0, y1, y2, z0, z1⟩ := hS.cells; go_simp⟩) hS ?_
  refine wpAnyH_take (i := 3) (v := .agg #[.int .i64 a.on, .int .i64 a.off, .int .i64 a.col]) rfl (by kernel_rfl) (by kernel_rfl) (by kernel_rfl) (fun _ _ _ h => h) (.inl ⟨by rfl, fun w' hS => by obtain ⟨x0, x1, x2, y0, y1, y2, z0, z1⟩ := hS.cells; go_simp⟩) hS ?_
  refine wpAnyH_take (i := 4) (v := .agg #[.int .i64 b.on, .int .i64 b.off, .int .i64 b.col]) rfl (by kernel_rfl) (by kernel_rfl) (by kernel_rfl) (fun _ _ _ h => h) (.inl ⟨by rfl, fun w' hS => by obtain ⟨x0, x1, x2, y0, y1, y2, z0, z1⟩ := hS.cells; go_simp⟩) hS ?_
  refine wpAnyH_all (rs := [2]) (by kernel_rfl) (by simp) ?_
  intro i' hi'
  obtain rfl : i' = 2 := by simpa using hi'
  refine op_via rfl (by rfl) (fun K hK => ?_)
  go_simp
  refine (then_pro a b _).mono ?_
  rintro e w1 ⟨rfl, hb⟩
  replace hS : SC B a b l W w1 := hS.below hb
  clear hb
  refine hK _ _ ⟨hS, ?_⟩
  clear hK K
  refine wpAnyH_all (rs := [5]) (by kernel_rfl) (by simp) ?_
  intro i' hi'
  obtain rfl : i' = 5 := by simpa using hi'
  refine op_via rfl (by rfl) (fun K hK => ?_)
  go_simp
  refine (then_ref a b _).mono ?_
  rintro e w2 ⟨rfl, hb⟩
  replace hS : SC B a b l W w2 := hS.below hb
  clear hb
  refine hK _ _ ⟨hS, ?_⟩
  clear hK K
  refine wpAnyH_all (rs := [6]) (by kernel_rfl) (by simp) ?_
  intro i' hi'
  obtain rfl : i' = 6 := by simpa using hi'
  refine op_via rfl (by rfl) (fun K hK => ?_)
  go_simp
  refine (same_law (thenC a b) _).mono ?_
  rintro e w3 ⟨rfl, hb⟩
  replace hS : SC B a b l W w3 := hS.below hb
  clear hb
  refine hK _ _ ⟨hS, ?_⟩
  clear hK K
  refine wpAnyH_take (i := 7) (v := .bool true) rfl (by kernel_rfl) (by kernel_rfl) (by kernel_rfl) (fun _ _ _ h => h) (.inl ⟨by rfl, fun w' hS => by go_simp⟩) hS ?_
  refine wpAnyH_take (i := 8) (v := .agg #[.int .i64 l.att, .int .i64 l.col]) rfl (by kernel_rfl) (by kernel_rfl) (by kernel_rfl) (fun _ _ _ h => h) (.inl ⟨by rfl, fun w' hS => by obtain ⟨x0, x1, x2, y0, y1, y2, z0, z1⟩ := hS.cells; go_simp⟩) hS ?_
  refine wpAnyH_take (i := 9) (v := .agg #[.int .i64 a.on, .int .i64 a.off, .int .i64 a.col]) rfl (by kernel_rfl) (by kernel_rfl) (by kernel_rfl) (fun _ _ _ h => h) (.inl ⟨by rfl, fun w' hS => by obtain ⟨x0, x1, x2, y0, y1, y2, z0, z1⟩ := hS.cells; go_simp⟩) hS ?_
  refine wpAnyH_take (i := 11) (v := .agg #[.int .i64 l.att, .int .i64 l.col]) rfl (by kernel_rfl) (by kernel_rfl) (by kernel_rfl) (fun _ _ _ h => h) (.inl ⟨by rfl, fun w' hS => by obtain ⟨x0, x1, x2, y0, y1, y2, z0, z1⟩ := hS.cells; go_simp⟩) hS ?_
  refine wpAnyH_take (i := 12) (v := .agg #[.int .i64 a.on, .int .i64 a.off, .int .i64 a.col]) rfl (by kernel_rfl) (by kernel_rfl) (by kernel_rfl) (fun _ _ _ h => h) (.inl ⟨by rfl, fun w' hS => by obtain ⟨x0, x1, x2, y0, y1, y2, z0, z1⟩ := hS.cells; go_simp⟩) hS ?_
  refine wpAnyH_all (rs := [10]) (by kernel_rfl) (by simp) ?_
  intro i' hi'
  obtain rfl : i' = 10 := by simpa using hi'
  refine op_via rfl (by rfl) (fun K hK => ?_)
  go_simp
  refine (apply_pro l a _).mono ?_
  rintro e w4 ⟨rfl, hb⟩
  replace hS : SC B a b l W w4 := hS.below hb
  clear hb
  refine hK _ _ ⟨hS, ?_⟩
  clear hK K
  refine wpAnyH_all (rs := [13]) (by kernel_rfl) (by simp) ?_
  intro i' hi'
  obtain rfl : i' = 13 := by simpa using hi'
  refine op_via rfl (by rfl) (fun K hK => ?_)
  go_simp
  refine (apply_ref l a _).mono ?_
  rintro e w5 ⟨rfl, hb⟩
  replace hS : SC B a b l W w5 := hS.below hb
  clear hb
  refine hK _ _ ⟨hS, ?_⟩
  clear hK K
  refine wpAnyH_all (rs := [14]) (by kernel_rfl) (by simp) ?_
  intro i' hi'
  obtain rfl : i' = 14 := by simpa using hi'
  refine op_via rfl (by rfl) (fun K hK => ?_)
  go_simp
  refine (look_law (applyL l a) _).mono ?_
  rintro e w6 ⟨rfl, hb⟩
  replace hS : SC B a b l W w6 := hS.below hb
  clear hb
  refine hK _ _ ⟨hS, ?_⟩
  clear hK K
  refine wpAnyH_take (i := 15) (v := .bool true) rfl (by kernel_rfl) (by kernel_rfl) (by kernel_rfl) (fun _ _ _ h => h) (.inl ⟨by rfl, fun w' hS => by go_simp⟩) hS ?_
  refine wpAnyH_take (i := 16) (v := .bool true) rfl (by kernel_rfl) (by kernel_rfl) (by kernel_rfl) (fun _ _ _ h => h) (.inl ⟨by rfl, fun w' hS => by go_simp⟩) hS ?_
  refine wpAnyH_all (rs := [17]) (by kernel_rfl) (by simp) ?_
  intro i' hi'
  obtain rfl : i' = 17 := by simpa using hi'
  refine op_via rfl (by rfl) (fun K hK => ?_)
  go_simp
  refine (awake_law _ (HT.out.at (by rw [HBq.out]; exact hS.1))).mono ?_
  rintro e w7 ⟨rfl, hb⟩
  replace hS : SC B a b l W w7 := hS.below hb
  clear hb
  refine hK _ _ ⟨hS, ?_⟩
  clear hK K
  refine wpAnyH_take (i := 18) (v := .bool true) rfl (by kernel_rfl) (by kernel_rfl) (by kernel_rfl) (fun _ _ _ h => h) (.inl ⟨by rfl, fun w' hS => by go_simp⟩) hS ?_
  refine wpAnyH_all (rs := [19]) (by kernel_rfl) (by simp) ?_
  intro i' hi'
  obtain rfl : i' = 19 := by simpa using hi'
  refine op_via rfl (by rfl) (fun K hK => ?_)
  go_simp
  refine hK _ _ ⟨hS, ?_⟩
  clear hK K
  refine wpAnyH_done (by kernel_rfl) ?_ _
  go_wp2_with fail
  go_ret
  exact ⟨rfl, by rw [HBq.out]; exact hS.1⟩

set_option maxRecDepth 100000 in
theorem contract (H : Type) (enc : TypeId × Value → H) (W : World) (base : Nat) (args : Array Value) (ds gs : List (DataW H)) (before : List MemPlace)
    (hval : ∀ (j : Nat) t v, Tryd.f3.params[j]? = some t → args[j]? = some v → Value.okWide Tryd.prog W .any base t v)
    (hW : DataW.Whole enc Tryd.prog Tryd.f3.params.toList Rows.styleChangesSpec.vars false W args.toList ds gs before) (hsz0 : (DataW.weightsEach Tryd.prog (Tryd.f3.params.toList ++ Rows.styleChangesSpec.plain.varTypes Tryd.prog) (ds ++ gs)).all (· ≤ reachBytes) = true) (hT : Tabs W) :
    Calls Tryd.prog 3 args W fun e W' => ∃ v, e = .returned v ∧ Rows.styleChangesSpec.post enc Tryd.prog Tryd.f3 false true false false W args v W' := by
  have hW' := hW
  obtain ⟨p, q, hA0, hV, rfl, hfz, hnd⟩ := hW
  have hA : DataW.TrodAll enc Tryd.prog W 0 (fun _ => true) true Tryd.f3.params.toList args.toList ds p := hA0
  rw [Tryd.params3] at hA hval
  have hsz := hsz0
  rw [Tryd.params3] at hsz
  clear hsz0
  obtain ⟨v0, vs0, d0, ds0, p0, q0, hargs, rfl, rfl, h0, r0⟩ := trodAll_cons hA
  obtain ⟨v1, vs1, d1, ds1, p1, q1, rfl, rfl, rfl, h1, r1⟩ := trodAll_cons r0
  obtain ⟨v2, vs2, d2, ds2, p2, q2, rfl, rfl, rfl, h2, r2⟩ := trodAll_cons r1
  obtain ⟨rfl, rfl, rfl⟩ := trodAll_nil r2
  obtain rfl : args = #[v0, v1, v2] := by cases args; simp_all
  obtain ⟨rfl, rfl⟩ := trodVars_none hV
  have hk0 := h0
  obtain ⟨c0, rfl, hc0⟩ := chg_read h0 (hval 0 23 v0 rfl rfl)
  have hk1 := h1
  obtain ⟨c1, rfl, hc1⟩ := chg_read h1 (hval 1 23 v1 rfl rfl)
  have hk2 := h2
  obtain ⟨c2, rfl, hc2⟩ := lk_read h2 (hval 2 25 v2 rfl rfl)
  clear hA0
  refine (walk c0 c1 c2 W hc0 hc1 hc2 hT).mono fun e W' ⟨he, hg⟩ => ?_
  subst he
  have hlt := hW'.lt
  exact ⟨_, rfl, post_of_below (pa := (p0 ++ (p1 ++ (p2 ++ [])))) (pv := []) hW' (fun _ _ _ => trodAll_cons_mk (shut_bool Tryd.underlying4 _) trodAll_mk0) (fun sp hsp => (trodAll_cons_mk (Go.WideElems.Trod_stays (by kernel_rfl) (by kernel_rfl) (of_decide_eq_true (by kernel_rfl)) hk0 (fun p hp => hg.same (hlt p (by simp [hp]))) (fun p hp => hsp p (by simp [hp]))) (trodAll_cons_mk (Go.WideElems.Trod_stays (by kernel_rfl) (by kernel_rfl) (of_decide_eq_true (by kernel_rfl)) hk1 (fun p hp => hg.same (hlt p (by simp [hp]))) (fun p hp => hsp p (by simp [hp]))) (trodAll_cons_mk (Go.WideElems.Trod_stays (by kernel_rfl) (by kernel_rfl) (of_decide_eq_true (by kernel_rfl)) hk2 (fun p hp => hg.same (hlt p (by simp [hp]))) (fun p hp => hsp p (by simp [hp]))) trodAll_mk0)))) (fun _ _ => rfl) rfl hg (ok_one (by kernel_rfl) rfl (okWide_bool_mk Tryd.underlying4 _))⟩

theorem witness_row (os : Os) {H : Type} (enc : TypeId × Value → H) :
    (OpenSpec.ofChange Rows.styleChangesSpec).preRow enc Tryd.prog Tryd.f3 Rows.styleChangesRow.domain false Rows.styleChangesRow.laid ((laidWorld os).forCall (fun _ _ => 0) ⟨#[], #[.agg #[.int .i64 0, .int .i64 0, .int .i64 0], .agg #[.int .i64 0, .int .i64 0, .int .i64 0], .agg #[.int .i64 0, .int .i64 0]], []⟩).memory #[.agg #[.int .i64 0, .int .i64 0, .int .i64 0], .agg #[.int .i64 0, .int .i64 0, .int .i64 0], .agg #[.int .i64 0, .int .i64 0]] := by
  have hw : (DataW.whole enc Tryd.prog ((laidWorld os).forCall (fun _ _ => 0) ⟨#[], #[.agg #[.int .i64 0, .int .i64 0, .int .i64 0], .agg #[.int .i64 0, .int .i64 0, .int .i64 0], .agg #[.int .i64 0, .int .i64 0]], []⟩).memory Tryd.f3.params.toList Rows.styleChangesSpec.vars false (#[.agg #[.int .i64 0, .int .i64 0, .int .i64 0], .agg #[.int .i64 0, .int .i64 0, .int .i64 0], .agg #[.int .i64 0, .int .i64 0]] : Array Value).toList 8).map (fun x => (x.1, x.2.1)) =
      some ([.agg [.lit (.int .i64 0), .lit (.int .i64 0), .lit (.int .i64 0)], .agg [.lit (.int .i64 0), .lit (.int .i64 0), .lit (.int .i64 0)], .agg [.lit (.int .i64 0), .lit (.int .i64 0)]], []) := by kernel_rfl
  obtain ⟨⟨x1, x2, x3⟩, hx, hx1⟩ := Option.map_eq_some_iff.1 hw
  simp only [Prod.mk.injEq] at hx1
  obtain ⟨rfl, rfl⟩ := hx1
  exact OpenSpec.preRow_of_cond 8 hx (by kernel_rfl) (fun k hk => by cases hk) (by kernel_rfl) (laid_met os _)

set_option maxRecDepth 100000 in
theorem lifted (os : Os) (started : os.Started) (H : Type) (enc : TypeId × Value → H) (F : Stop.Interp) :
    ReturnsInHanded {} Tryd.checked os 3 .any ((OpenSpec.ofChange Rows.styleChangesSpec).preRow enc Tryd.prog Tryd.f3 Rows.styleChangesRow.domain false Rows.styleChangesRow.laid) (((OpenSpec.ofChange Rows.styleChangesSpec).at F).post enc Tryd.prog Tryd.f3 false true false false) := by
  refine returnsInHanded_of_row (C := Tryd.checked) (s := (OpenSpec.ofChange Rows.styleChangesSpec)) own started (by kernel_rfl) Tryd.func3
    (witness_row_at (enc := enc) (C := Tryd.checked) false (laidWorld os) #[.agg #[.int .i64 0, .int .i64 0, .int .i64 0], .agg #[.int .i64 0, .int .i64 0, .int .i64 0], .agg #[.int .i64 0, .int .i64 0]] rfl (by kernel_rfl) (by kernel_rfl) (by kernel_rfl) (witness_row os enc)) ?_
  intro W base args ds gs before hval hW _ hcond hsz hL hS _
  exact contract H enc W base args ds gs before hval hW hsz (tabs_of hL hS)

set_option maxHeartbeats 16000000 in
theorem closed : joinedFacts Tryd.pinned.checked.prog 3 Tryd.f3 ((OpenSpec.ofChange Rows.styleChangesSpec)).bare Rows.styleChangesRow = true := by
  unfold joinedFacts
  repeat' (with_reducible refine Bool.and_eq_true_iff.2 ⟨?_, ?_⟩)
  all_goals (as_aux_lemma => kernel_rfl)
theorem named : Tryd.pinned.checked.prog.funcNamed Rows.styleChangesRow.func = some 3 := by kernel_rfl
theorem inst : (Tryd.f3).isInstance Tryd.pinned.checked.prog Rows.styleChangesRow.origin Rows.styleChangesRow.targs := of_decide_eq_true (by kernel_rfl)
theorem wrap : (Tryd.f3).isWrapper Tryd.pinned.checked.prog Rows.styleChangesRow.wrapper Rows.styleChangesRow.mainSum := by
  unfold Func.isWrapper
  first | (rw [if_pos (by decide +kernel)]; kernel_rfl) | (rw [if_neg (by decide +kernel)]; exact ⟨rfl, rfl⟩)
theorem row : Rows.StyleChangesSaid :=
  OpenClaim.holds_of_cond 3 Tryd.f3 rfl rfl rfl rfl rfl rfl rfl ⟨rfl, rfl, rfl, rfl, rfl⟩ rfl rfl rfl rfl rfl named Tryd.func3 closed inst wrap
    (fun os started H enc _ F => by rw [OpenClaim.pre_eq_preRow]; exact lifted os started H enc F)

theorem plain (f : FuncId) (fn : Func) (hf : Tryd.pinned.checked.prog.funcNamed Rows.styleChangesRow.func = some f) (hfn : Tryd.pinned.checked.prog.funcs[f]? = some fn) :
    true = Tryd.pinned.checked.prog.looks [] ∧ ∀ (j : Nat) t, fn.params[j]? = some t → Tryd.pinned.checked.prog.wantsStandIn t = false := by
  obtain rfl : f = 3 := Option.some.inj ((show Tryd.prog.funcNamed Rows.styleChangesRow.func = some 3 by kernel_rfl).symm.trans hf) |>.symm
  obtain rfl : fn = Tryd.f3 := (Option.some.inj (Tryd.func3.symm.trans hfn)).symm
  refine ⟨by kernel_rfl, fun j t ht => ?_⟩
  rw [Tryd.params3] at ht
  have hm : t ∈ [23, 23, 25] := by simpa using Array.mem_of_getElem? ht
  simp only [List.mem_cons, List.mem_nil_iff, or_false] at hm
  rcases hm with rfl | rfl | rfl
  · exact (show Tryd.prog.wantsStandIn 23 = false by kernel_rfl)
  · exact (show Tryd.prog.wantsStandIn 23 = false by kernel_rfl)
  · exact (show Tryd.prog.wantsStandIn 25 = false by kernel_rfl)

theorem proved : Rows.StyleChangesCardSaid :=
  Claim7.holds_tied_plain_at .later [] _ _ _ _ row (fun _ h => by cases h) (by kernel_rfl) (fun _ h => by cases h) styleChanges_row_tie rfl ⟨rfl, rfl⟩ (by kernel_rfl) rfl plain (by kernel_rfl)
end Go.Proofs.YtceanagnkcejgaaDoor.styleChanges
