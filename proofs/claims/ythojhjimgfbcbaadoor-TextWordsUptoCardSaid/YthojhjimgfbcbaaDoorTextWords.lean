/- What is proved: TextWords holds of every text: the program's words, and its two parts of a text cut anywhere, are the document's. Its condition: what comes in is of bulk at most 1048576 (the statement's second form). -/
import Derived.Test.YthojhjimgfbcbaaDoorAwake
import Derived.Test.YthojhjimgfbcbaaDoorPost
import Derived.Test.YthojhjimgfbcbaaDoorLft
import Derived.Test.YthojhjimgfbcbaaDoorCards
import Derived.Test.YthojhjimgfbcbaaDoorTie
import Derived.ProofKit
import Derived.OpenShut
import Derived.Deep.DeepHandedRow
namespace Go.Proofs.YthojhjimgfbcbaaDoor.textWords
open Go.ChangeShapes Go.WideShapes Go.ChangeAt Go.RowKit
open Go.ChangeMaps (open_string shut_string)
set_option linter.unusedVariables false

set_option maxRecDepth 100000 in
set_option maxHeartbeats 1000000 in
theorem walk (s : ByteArray) (m : Int) (hs : s.size ≤ 1048576) (wm : (Lit.int .i64 m).wf = true) (w : World) (hT : Tabs w) :
    Calls Tryd.prog 6 #[.string s, .int .i64 m] w fun e w' => e = .returned (.bool true) ∧ Below w.heap.size w w' := by
  have HS := Lib.hid (show s.size ≤ 16777216 by omega)
  have hl : (words s).length ≤ 1048577 := Nat.le_trans (words_len s) (Nat.succ_le_succ hs)
  have WM := Lib.hid wm
  clear hs wm
  have HTW := Lib.hid hT
  clear hT
  go_enter Tryd.func6, Tryd.ntmps6
  go_wp2_with fail
  refine (words_pro _ _ HS.out HTW.out).mono ?_
  rintro e w1 ⟨vl, rfl, ol, h1⟩
  have Z1 := Lib.hid h1
  have OL1 := Lib.hid ol
  clear h1 ol
  go_wp2_with fail
  refine (words_ref _ _ HS.out).mono ?_
  rintro e w2 ⟨vm, rfl, om, h2⟩
  have Z2 := Lib.hid (Z1.out.trans (h2.mono Z1.out.size))
  have OM2 := Lib.hid om
  have OL2 := Lib.hid (own_below OL1.out h2)
  clear h2 om
  obtain ⟨pl, cl, rfl⟩ := lenOf OL2.out
  obtain ⟨pm, cm, rfl⟩ := lenOf OM2.out
  go_wp2_with fail
  refine (awake_law _ (HTW.out.at Z2.out)).mono ?_
  rintro e w5 ⟨rfl, h5⟩
  have Z5 := Lib.hid (Z2.out.trans (h5.mono Z2.out.size))
  have OL5 := Lib.hid (own_below OL2.out h5)
  have OM5 := Lib.hid (own_below OM2.out h5)
  clear h5
  go_wp2_with fail
  go_loopw [7] (fun i wr => ∃ k : Nat, i = .int .i64 k ∧ k ≤ (words s).length ∧ ∃ n, wr = w5.drewN n) (fun i _ => (words s).length - (intOf i).toNat)
  case atStart => exact ⟨0, rfl, Nat.zero_le _, 0, rfl⟩
  case round =>
    obtain ⟨k, rfl, hk, nq, rfl⟩ := hrel
    by_cases hlt : k < (words s).length
    · obtain ⟨gl, cl2, el, _, _⟩ := World.ownsRow.form OL5.out (by omega)
      obtain ⟨gm, cm2, em, _, _⟩ := World.ownsRow.form OM5.out (by omega)
      cases el
      cases em
      obtain ⟨y, hy⟩ : ∃ y, (words s)[k]? = some y := ⟨_, List.getElem?_eq_getElem hlt⟩
      have l0 := (World.ownsRow.cellAt OL5.out (k * 3) (by omega)).trans (wrdsV_get s _ k y hy).1
      have l1 := (World.ownsRow.cellAt OL5.out (k * 3 + 1) (by omega)).trans (wrdsV_get s _ k y hy).2.1
      have l2 := (World.ownsRow.cellAt OL5.out (k * 3 + 2) (by omega)).trans (wrdsV_get s _ k y hy).2.2
      have m0 := (World.ownsRow.cellAt OM5.out (k * 3) (by omega)).trans (wrdsV_get s _ k y hy).1
      have m1 := (World.ownsRow.cellAt OM5.out (k * 3 + 1) (by omega)).trans (wrdsV_get s _ k y hy).2.1
      have m2 := (World.ownsRow.cellAt OM5.out (k * 3 + 2) (by omega)).trans (wrdsV_get s _ k y hy).2.2
      clear hy
      go_wp2_with fail
      go_quiet (fail)
      go_wp2_with fail
      go_roundw
      all_goals first | exact ⟨k + 1, by go_num, by omega, _, rfl⟩ | (simp [intOf]; done) | (simp [intOf]; omega)
    · obtain rfl : k = (words s).length := by omega
      have Z6 := Lib.hid (Z5.out.trans (⟨rfl, rfl, rfl, Nat.le_refl _, fun _ _ => rfl⟩ : Below w.heap.size w5 (w5.drewN nq)))
      go_wp2_with fail
      refine (cut_pro _ _ _ HS.out WM.out).mono ?_
      rintro e w7 ⟨rfl, h7⟩
      have Z7 := Lib.hid (Z6.out.trans (h7.mono Z6.out.size))
      clear h7
      go_wp2_with fail
      refine (cut_ref _ _ _ HS.out).mono ?_
      rintro e w8 ⟨rfl, h8⟩
      have Z8 := Lib.hid (Z7.out.trans (h8.mono Z7.out.size))
      clear h8
      go_wp2_with fail
      go_ret
      exact ⟨rfl, Z8.out⟩

set_option maxRecDepth 100000 in
theorem contract (H : Type) (enc : TypeId × Value → H) (W : World) (base : Nat) (args : Array Value) (ds gs : List (DataW H)) (before : List MemPlace)
    (hval : ∀ (j : Nat) t v, Tryd.f6.params[j]? = some t → args[j]? = some v → Value.okWide Tryd.prog W .any base t v)
    (hW : DataW.Whole enc Tryd.prog Tryd.f6.params.toList Rows.textWordsSpec.vars false W args.toList ds gs before) (hk : Rows.uptoSmall H (ds ++ gs) = true) (hT : Tabs W) :
    Calls Tryd.prog 6 args W fun e W' => ∃ v, e = .returned v ∧ Rows.textWordsSpec.post enc Tryd.prog Tryd.f6 false true false false W args v W' := by
  have hW' := hW
  obtain ⟨p, q, hA0, hV, rfl, hfz, hnd⟩ := hW
  have hA : DataW.TrodAll enc Tryd.prog W 0 (fun _ => true) true Tryd.f6.params.toList args.toList ds p := hA0
  rw [Tryd.params6] at hA hval
  obtain ⟨v0, vs0, d0, ds0, p0, q0, hargs, rfl, rfl, h0, r0⟩ := trodAll_cons hA
  obtain ⟨v1, vs1, d1, ds1, p1, q1, rfl, rfl, rfl, h1, r1⟩ := trodAll_cons r0
  obtain ⟨rfl, rfl, rfl⟩ := trodAll_nil r1
  obtain rfl : args = #[v0, v1] := by cases args; simp_all
  obtain ⟨rfl, rfl⟩ := trodVars_none hV
  obtain ⟨s0, rfl, rfl, rfl, hm0⟩ := open_string Tryd.underlying9 (hval 0 9 v0 rfl rfl) h0
  obtain ⟨a1, rfl, rfl, rfl, w1⟩ := open_int Tryd.underlying3 (hval 1 3 v1 rfl rfl) h1
  clear hA0
  simp only [List.append_nil] at hW' hk
  have hb0 := of_decide_eq_true hk
  simp only [Rows.uptoBulkAll, Rows.uptoBulk] at hb0
  have size0 : s0.size ≤ 1048576 := by
    have e : s0.data.toList.length = s0.size := by rw [Array.length_toList]; rfl
    omega
  refine (walk s0 a1 size0 w1 W hT).mono fun e W' ⟨he, hg⟩ => ?_
  subst he
  exact ⟨_, rfl, post_of_below (pa := []) (pv := []) hW' (fun _ _ _ => trodAll_cons_mk (shut_bool Tryd.underlying4 _) trodAll_mk0) (fun _ _ => (trodAll_cons_mk (shut_string Tryd.underlying9 hm0) (trodAll_cons_mk (shut_int Tryd.underlying3 w1) trodAll_mk0))) (fun _ _ => rfl) rfl hg (ok_one (by kernel_rfl) rfl (okWide_bool_mk Tryd.underlying4 _))⟩

theorem witness_row (os : Os) {H : Type} (enc : TypeId × Value → H) :
    (Rows.OpenSpec.upto Rows.textWordsSpec).preRow enc Tryd.prog Tryd.f6 Rows.textWordsUptoRow.domain false Rows.textWordsUptoRow.laid ((laidWorld os).forCall (fun _ _ => 0) ⟨#[], #[.string .empty, .int .i64 0], []⟩).memory #[.string .empty, .int .i64 0] := by
  have hw : (DataW.whole enc Tryd.prog ((laidWorld os).forCall (fun _ _ => 0) ⟨#[], #[.string .empty, .int .i64 0], []⟩).memory Tryd.f6.params.toList Rows.textWordsSpec.vars false (#[.string .empty, .int .i64 0] : Array Value).toList 8).map (fun x => (x.1, x.2.1)) =
      some ([.lit (.string []), .lit (.int .i64 0)], []) := by kernel_rfl
  obtain ⟨⟨x1, x2, x3⟩, hx, hx1⟩ := Option.map_eq_some_iff.1 hw
  simp only [Prod.mk.injEq] at hx1
  obtain ⟨rfl, rfl⟩ := hx1
  exact OpenSpec.preRow_of_cond 8 hx (by kernel_rfl) (fun k hk => by cases hk; kernel_rfl) (by kernel_rfl) (laid_met os _)

set_option maxRecDepth 100000 in
theorem lifted (os : Os) (started : os.Started) (H : Type) (enc : TypeId × Value → H) (F : Stop.Interp) :
    ReturnsInHanded {} Tryd.checked os 6 .any ((Rows.OpenSpec.upto Rows.textWordsSpec).preRow enc Tryd.prog Tryd.f6 Rows.textWordsUptoRow.domain false Rows.textWordsUptoRow.laid) (((Rows.OpenSpec.upto Rows.textWordsSpec).at F).post enc Tryd.prog Tryd.f6 false true false false) := by
  refine returnsInHanded_of_row (C := Tryd.checked) (s := (Rows.OpenSpec.upto Rows.textWordsSpec)) own started (by kernel_rfl) Tryd.func6
    (witness_row_at (enc := enc) (C := Tryd.checked) false (laidWorld os) #[.string .empty, .int .i64 0] rfl (by kernel_rfl) (by kernel_rfl) (by kernel_rfl) (witness_row os enc)) ?_
  intro W base args ds gs before hval hW _ hcond _ hL hS _
  exact contract H enc W base args ds gs before hval hW (hcond _ rfl) (tabs_of hL hS)

theorem row : Rows.TextWordsUptoSaid :=
  OpenClaim.holds_of_cond 6 Tryd.f6 rfl rfl rfl rfl rfl rfl rfl ⟨rfl, rfl, rfl, rfl, rfl⟩ rfl rfl rfl rfl rfl (by kernel_rfl) Tryd.func6 (by kernel_rfl)
    (of_decide_eq_true (by kernel_rfl)) (by unfold Func.isWrapper; first | (rw [if_pos (by decide +kernel)]; kernel_rfl) | (rw [if_neg (by decide +kernel)]; exact ⟨rfl, rfl⟩))
    (fun os started H enc _ F => by rw [OpenClaim.pre_eq_preRow]; exact lifted os started H enc F)

theorem plain (f : FuncId) (fn : Func) (hf : Tryd.pinned.checked.prog.funcNamed Rows.textWordsUptoRow.func = some f) (hfn : Tryd.pinned.checked.prog.funcs[f]? = some fn) :
    false = Tryd.pinned.checked.prog.looks [] ∧ ∀ (j : Nat) t, fn.params[j]? = some t → Tryd.pinned.checked.prog.wantsStandIn t = false := by
  obtain rfl : f = 6 := Option.some.inj ((show Tryd.prog.funcNamed Rows.textWordsUptoRow.func = some 6 by kernel_rfl).symm.trans hf) |>.symm
  obtain rfl : fn = Tryd.f6 := (Option.some.inj (Tryd.func6.symm.trans hfn)).symm
  refine ⟨by kernel_rfl, fun j t ht => ?_⟩
  rw [Tryd.params6] at ht
  have hm : t ∈ [9, 3] := by simpa using Array.mem_of_getElem? ht
  simp only [List.mem_cons, List.mem_nil_iff, or_false] at hm
  rcases hm with rfl | rfl
  · exact (show Tryd.prog.wantsStandIn 9 = false by kernel_rfl)
  · exact (show Tryd.prog.wantsStandIn 3 = false by kernel_rfl)

theorem proved : Rows.TextWordsUptoCardSaid :=
  Claim7.holds_tied_plain_at .later [] _ _ _ _ row (fun _ h => by cases h) (by kernel_rfl) (fun _ h => by cases h) textWordsUpto_row_tie rfl ⟨rfl, rfl⟩ (by kernel_rfl) rfl plain (by kernel_rfl)
end Go.Proofs.YthojhjimgfbcbaaDoor.textWords
