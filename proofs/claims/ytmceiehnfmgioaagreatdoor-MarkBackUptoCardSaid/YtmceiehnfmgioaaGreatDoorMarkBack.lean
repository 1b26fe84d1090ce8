/- What is proved: MarkBack holds of every text: of a text of plain characters, not empty, of at most 2000 bytes, without a blank at either end or two side by side, Lex of its Escape tells one run, the text. Its condition: the text is of bulk at most 1048576 (the statement's second form). -/
import Derived.Test.YtmceiehnfmgioaaGreatDoorBk
import Derived.Test.YtmceiehnfmgioaaGreatDoorLl
import Derived.Test.YtmceiehnfmgioaaGreatDoorMawk
import Derived.Test.YtmceiehnfmgioaaGreatDoorPost
import Derived.Test.YtmceiehnfmgioaaGreatDoorMLft
import Derived.Test.YtmceiehnfmgioaaGreatDoorCards
import Derived.Test.YtmceiehnfmgioaaGreatDoorTie
import Derived.ProofKit
import Derived.OpenShut
import Derived.Deep.DeepHandedRow
namespace Go.Proofs.YtmceiehnfmgioaaGreatDoor.markBack
open Go.ChangeShapes Go.WideShapes Go.ChangeAt Go.RowKit
open Go.ChangeMaps (open_string shut_string)
set_option linter.unusedVariables false

theorem dbl_contains : ∀ (l : List UInt8), Lib.contains l [32, 32] = false → noDbl l = true
  | [], _ => rfl
  | [_], _ => rfl
  | a :: b :: r, h => by
    have hx : Lib.index (a :: b :: r) [32, 32] = if ([32, 32] : List UInt8).isPrefixOf (a :: b :: r) then 0 else if Lib.index (b :: r) [32, 32] = -1 then -1 else Lib.index (b :: r) [32, 32] + 1 := by
      conv => lhs; unfold Lib.index
      simp only [beq_iff_eq]
    unfold Lib.contains at h
    rw [hx] at h
    by_cases hp : ([32, 32] : List UInt8).isPrefixOf (a :: b :: r) = true
    · rw [if_pos hp] at h; simp at h
    · rw [if_neg hp] at h
      have h2 : Lib.contains (b :: r) [32, 32] = false := by
        unfold Lib.contains
        by_cases h3 : Lib.index (b :: r) [32, 32] = -1
        · rw [h3]; rfl
        · rw [if_neg h3] at h
          simp only [decide_eq_false_iff_not] at h ⊢
          omega
      simp only [noDbl, Bool.and_eq_true]
      refine ⟨?_, dbl_contains (b :: r) h2⟩
      simp only [List.isPrefixOf, Bool.and_true, Bool.and_eq_true, not_and, Bool.not_eq_true] at hp
      simp only [Bool.not_eq_true', Bool.and_eq_false_iff, beq_eq_false_iff_ne]
      by_cases ha : a = 32
      · right
        have := hp (by rw [ha]; rfl)
        rw [beq_eq_false_iff_ne] at this
        exact fun e => this e.symm
      · exact .inl ha
set_option maxRecDepth 100000 in
set_option maxHeartbeats 4000000 in
theorem walk (s : ByteArray) (W : World) (hs : s.size ≤ 1048576) (hT : Tabs W) :
    Calls Tryz.prog 4 #[.string s] W fun e W' => e = .returned (.bool true) ∧ Below W.heap.size W W' := by
  obtain ⟨l, rfl, hl⟩ := of_bs s
  have HA := Lib.hid (awake_law W hT)
  have HT := Lib.hid hT
  have HL := Lib.hid (show l.length ≤ 1048576 by rw [hl]; exact hs)
  clear hT hl hs
  go_enter Tryz.func4, Tryz.ntmps4
  go_wp2_with fail
  refine HA.out.mono ?_
  rintro e w1 ⟨rfl, hb⟩
  have HB := Lib.hid hb
  have HT1 := Lib.hid (HT.out.at hb)
  clear hb
  go_wp2_with fail
  refine (plain_pro (bs l) w1 (by rw [bs_size]; have := HL.out; omega) HT1.out).mono ?_
  rintro e w2 ⟨rfl, hb⟩
  have HB2 := Lib.hid (HB.out.trans (hb.mono HB.out.size))
  have HT2 := Lib.hid (HT1.out.at hb)
  clear hb
  obtain ⟨pl, hpl⟩ : ∃ pl, ((chars (bs l)).find? unplain).isNone = pl := ⟨_, rfl⟩
  obtain ⟨pc, hpc⟩ : ∃ pc, placeOf ((chars (bs l)).find? unplain) = pc := ⟨_, rfl⟩
  rw [hpl, hpc]
  have HPL := Lib.hid hpl
  have zl := bs_size l
  have tl := toList_bs l
  clear hpl hpc
  cases pl with
  | false =>
    go_wp2_with fail
    go_ret
    exact ⟨rfl, HB2.out⟩
  | true =>
  by_cases l0 : l = []
  · subst l0
    go_wp2_with fail
    go_ret
    exact ⟨rfl, HB2.out⟩
  have hne : l.isEmpty = false := by cases l with | nil => exact absurd rfl l0 | cons x y => rfl
  have hpos : 0 < l.length := List.length_pos_iff.2 l0
  by_cases d1 : 2000 < l.length
  · have d2 : (2000 : Int) < l.length := by omega
    clear d1
    go_wp2_with fail
    go_ret
    exact ⟨rfl, HB2.out⟩
  have d2 : ¬ (2000 : Int) < l.length := by omega
  obtain ⟨j, hj⟩ : ∃ j, l.length = j + 1 := ⟨l.length - 1, by omega⟩
  obtain ⟨c, hc⟩ : ∃ c, l[j]? = some c := ⟨_, List.getElem?_eq_getElem (by omega)⟩
  obtain ⟨d, hd⟩ : ∃ d, l[0]? = some d := ⟨_, List.getElem?_eq_getElem (by omega)⟩
  have hix : ∀ hh, (bs l)[j]'hh = c := fun hh => (List.getElem?_eq_some_iff.1 hc).2
  have hix0 : ∀ hh, (bs l)[0]'hh = d := fun hh => (List.getElem?_eq_some_iff.1 hd).2
  have hlast : l.getLast? = some c := by rw [List.getLast?_eq_getElem?, hj]; exact hc
  have hhead : l.head? = some d := by rw [List.head?_eq_getElem?]; exact hd
  have HLA := Lib.hid hlast
  have HHE := Lib.hid hhead
  have L0 := Lib.hid l0
  have hposI : (0 : Int) < l.length := by omega
  have zj : wrap64 ((l.length : Int) - 1) = (j : Int) := by
    rw [IntWalk.wrap64_in _ (by omega)]; omega
  have zj1 : (l.length : Int) - 1 = (j : Int) := by omega
  have zj2 : (j : Int) < l.length := by omega
  have HJ := Lib.hid hj
  have D1 := Lib.hid d1
  clear hc hd hlast hhead l0 hj d1
  by_cases c1 : d.toNat = 32
  · have t1 : ((d.toNat : Int) == 32) = true := u8_eq c1
    clear c1
    go_wp2_with fail
    go_ret
    exact ⟨rfl, HB2.out⟩
  have t1 : ((d.toNat : Int) == 32) = false := u8_ne c1
  have C1 := Lib.hid c1
  clear c1
  by_cases c2 : c.toNat = 32
  · have t2 : ((c.toNat : Int) == 32) = true := u8_eq c2
    clear c2
    go_wp2_with fail
    go_ret
    exact ⟨rfl, HB2.out⟩
  have t2 : ((c.toNat : Int) == 32) = false := u8_ne c2
  have C2 := Lib.hid c2
  clear c2
  obtain ⟨cn, hcn⟩ : ∃ cn, Lib.contains l [32, 32] = cn := ⟨_, rfl⟩
  have HCN := Lib.hid hcn
  have HCT := Lib.hid (show Calls Tryz.prog 21 #[.string (bs l), .string ⟨#[32, 32]⟩] w2 fun e w' => e = .returned (.bool cn) ∧ w' = w2 by
    obtain ⟨mx, hmx⟩ := HT2.out.len
    refine (Tryz.strings_Contains (bs l) ⟨#[32, 32]⟩ mx w2 (by rw [bs_size]; have := HL.out; omega) hmx).mono ?_
    rintro e w' ⟨rfl, rfl⟩
    exact ⟨by rw [show Lib.contains (bs l).data.toList (⟨#[32, 32]⟩ : ByteArray).data.toList = cn from hcn], rfl⟩)
  clear hcn
  go_wp2_with fail
  refine HCT.out.mono ?_
  rintro e w' ⟨rfl, rfl⟩
  cases cn with
  | true =>
    go_wp2_with fail
    go_ret
    exact ⟨rfl, HB2.out⟩
  | false =>
  have HBK := Lib.hid (lexM_back (s := l) (by have h := HPL.out; unfold PlainL; exact Option.isNone_iff_eq_none.1 h) L0.out (by have := D1.out; omega) (by rw [HHE.out]; intro e; injection e with e; have := C1.out; rw [e] at this; exact this rfl) (by rw [HLA.out]; intro e; injection e with e; have := C2.out; rw [e] at this; exact this rfl) (dbl_contains l HCN.out))
  go_wp2_with fail
  refine (escape_pro l w' (by have := HL.out; omega)).mono ?_
  rintro e w3 ⟨rfl, hb⟩
  have HB3 := Lib.hid (HB2.out.trans (hb.mono HB2.out.size))
  have HT3 := Lib.hid (HT2.out.at hb)
  clear hb
  go_wp2_with fail
  refine (lex_pro (escM l) w3 HT3.out).mono ?_
  unfold LexPost
  rw [HBK.out]
  rintro e w4 ⟨v4, rfl, ht4, hb⟩
  have HT4 := Lib.hid ht4
  have HB4 := Lib.hid (HB3.out.trans (hb.mono HB3.out.size))
  clear ht4 hb t1 t2 zj zj1 zj2 hix hix0 hne
  go_wp2_with fail
  have HW := Lib.hid (show Toks (w4.alloc (.cells #[.int .i64 6, .string (bs []), .string (bs l), .int .i64 1, .int .i64 1] 40)) (.slice (some ⟨w4.heap.size, 0, none⟩) 1 1) [⟨6, [], l, 1, 1⟩] from
    ⟨w4.heap.size, World.ownsRow_lit w4 _ 1 (Nat.le_refl _) (by decide) rfl⟩)
  have HB5 := Lib.hid (HB4.out.alloc HB4.out.size (.cells #[.int .i64 6, .string (bs []), .string (bs l), .int .i64 1, .int .i64 1] 40))
  refine (same_ref [⟨6, [], l, 1, 1⟩] v4 _ _ (HT4.out.below ((Below.refl _ _).alloc (Nat.le_refl _) _)) HW.out (by simp)).mono ?_
  rintro e w5 ⟨rfl, hb⟩
  have HB6 := Lib.hid (HB5.out.trans (hb.mono HB5.out.size))
  clear hb
  go_wp2_with fail
  go_ret
  exact ⟨rfl, HB6.out⟩

set_option maxRecDepth 100000 in
theorem contract (H : Type) (enc : TypeId × Value → H) (W : World) (base : Nat) (args : Array Value) (ds gs : List (DataW H)) (before : List MemPlace)
    (hval : ∀ (j : Nat) t v, Tryz.f4.params[j]? = some t → args[j]? = some v → Value.okWide Tryz.prog W .any base t v)
    (hW : DataW.Whole enc Tryz.prog Tryz.f4.params.toList Rows.markBackSpec.vars false W args.toList ds gs before) (hk : Rows.uptoSmall H (ds ++ gs) = true) (hT : Tabs W) :
    Calls Tryz.prog 4 args W fun e W' => ∃ v, e = .returned v ∧ Rows.markBackSpec.post enc Tryz.prog Tryz.f4 false true false false W args v W' := by
  have hW' := hW
  obtain ⟨p, q, hA0, hV, rfl, hfz, hnd⟩ := hW
  have hA : DataW.TrodAll enc Tryz.prog W 0 (fun _ => true) true Tryz.f4.params.toList args.toList ds p := hA0
  rw [Tryz.params4] at hA hval
  obtain ⟨v0, vs0, d0, ds0, p0, q0, hargs, rfl, rfl, h0, r0⟩ := trodAll_cons hA
  obtain ⟨rfl, rfl, rfl⟩ := trodAll_nil r0
  obtain rfl : args = #[v0] := by cases args; simp_all
  obtain ⟨rfl, rfl⟩ := trodVars_none hV
  obtain ⟨s0, rfl, rfl, rfl, hm0⟩ := open_string Tryz.underlying9 (hval 0 9 v0 rfl rfl) h0
  clear hA0
  simp only [List.append_nil] at hk
  have hb0 := of_decide_eq_true hk
  simp only [Rows.uptoBulkAll, Rows.uptoBulk] at hb0
  have size0 : s0.size ≤ 1048576 := by
    have e : s0.data.toList.length = s0.size := by rw [Array.length_toList]; rfl
    omega
  refine (walk s0 W size0 hT).mono fun e W' ⟨he, hg⟩ => ?_
  subst he
  have hlt := hW'.lt
  exact ⟨_, rfl, post_of_below (pa := ([] ++ [])) (pv := []) hW' (fun _ _ _ => trodAll_cons_mk (shut_bool Tryz.underlying4 _) trodAll_mk0) (fun sp hsp => (trodAll_cons_mk (shut_string Tryz.underlying9 hm0) trodAll_mk0)) (fun _ _ => rfl) rfl hg (ok_one (by kernel_rfl) rfl (okWide_bool_mk Tryz.underlying4 _))⟩

theorem witness_row (os : Os) {H : Type} (enc : TypeId × Value → H) :
    (Rows.OpenSpec.upto Rows.markBackSpec).preRow enc Tryz.prog Tryz.f4 Rows.markBackUptoRow.domain false Rows.markBackUptoRow.laid ((laidWorld os).forCall (fun _ _ => 0) ⟨#[], #[.string .empty], []⟩).memory #[.string .empty] := by
  have hw : (DataW.whole enc Tryz.prog ((laidWorld os).forCall (fun _ _ => 0) ⟨#[], #[.string .empty], []⟩).memory Tryz.f4.params.toList Rows.markBackSpec.vars false (#[.string .empty] : Array Value).toList 8).map (fun x => (x.1, x.2.1)) =
      some ([.lit (.string [])], []) := by kernel_rfl
  obtain ⟨⟨x1, x2, x3⟩, hx, hx1⟩ := Option.map_eq_some_iff.1 hw
  simp only [Prod.mk.injEq] at hx1
  obtain ⟨rfl, rfl⟩ := hx1
  exact OpenSpec.preRow_of_cond 8 hx (by kernel_rfl) (fun k hk => by cases hk; kernel_rfl) (by kernel_rfl) (laid_met os _)

set_option maxRecDepth 100000 in
theorem lifted (os : Os) (started : os.Started) (H : Type) (enc : TypeId × Value → H) (F : Stop.Interp) :
    ReturnsInHanded {} Tryz.checked os 4 .any ((Rows.OpenSpec.upto Rows.markBackSpec).preRow enc Tryz.prog Tryz.f4 Rows.markBackUptoRow.domain false Rows.markBackUptoRow.laid) (((Rows.OpenSpec.upto Rows.markBackSpec).at F).post enc Tryz.prog Tryz.f4 false true false false) := by
  refine returnsInHanded_of_row (C := Tryz.checked) (s := (Rows.OpenSpec.upto Rows.markBackSpec)) own started (by kernel_rfl) Tryz.func4
    (witness_row_at (enc := enc) (C := Tryz.checked) false (laidWorld os) #[.string .empty] rfl (by kernel_rfl) (by kernel_rfl) (by kernel_rfl) (witness_row os enc)) ?_
  intro W base args ds gs before hval hW _ hcond hsz hL hS _
  exact contract H enc W base args ds gs before hval hW (hcond _ rfl) (tabs_of hL hS)

set_option maxHeartbeats 16000000 in
theorem closed : joinedFacts Tryz.pinned.checked.prog 4 Tryz.f4 ((Rows.OpenSpec.upto Rows.markBackSpec)).bare Rows.markBackUptoRow = true := by
  unfold joinedFacts
  repeat' (with_reducible refine Bool.and_eq_true_iff.2 ⟨?_, ?_⟩)
  all_goals (as_aux_lemma => kernel_rfl)
theorem named : Tryz.pinned.checked.prog.funcNamed Rows.markBackUptoRow.func = some 4 := by kernel_rfl
theorem inst : (Tryz.f4).isInstance Tryz.pinned.checked.prog Rows.markBackUptoRow.origin Rows.markBackUptoRow.targs := of_decide_eq_true (by kernel_rfl)
theorem wrap : (Tryz.f4).isWrapper Tryz.pinned.checked.prog Rows.markBackUptoRow.wrapper Rows.markBackUptoRow.mainSum := by
  unfold Func.isWrapper
  first | (rw [if_pos (by decide +kernel)]; kernel_rfl) | (rw [if_neg (by decide +kernel)]; exact ⟨rfl, rfl⟩)
theorem row : Rows.MarkBackUptoSaid :=
  OpenClaim.holds_of_cond 4 Tryz.f4 rfl rfl rfl rfl rfl rfl rfl ⟨rfl, rfl, rfl, rfl, rfl⟩ rfl rfl rfl rfl rfl named Tryz.func4 closed inst wrap
    (fun os started H enc _ F => by rw [OpenClaim.pre_eq_preRow]; exact lifted os started H enc F)

theorem plain (f : FuncId) (fn : Func) (hf : Tryz.pinned.checked.prog.funcNamed Rows.markBackUptoRow.func = some f) (hfn : Tryz.pinned.checked.prog.funcs[f]? = some fn) :
    true = Tryz.pinned.checked.prog.looks [] ∧ ∀ (j : Nat) t, fn.params[j]? = some t → Tryz.pinned.checked.prog.wantsStandIn t = false := by
  obtain rfl : f = 4 := Option.some.inj ((show Tryz.prog.funcNamed Rows.markBackUptoRow.func = some 4 by kernel_rfl).symm.trans hf) |>.symm
  obtain rfl : fn = Tryz.f4 := (Option.some.inj (Tryz.func4.symm.trans hfn)).symm
  refine ⟨by kernel_rfl, fun j t ht => ?_⟩
  rw [Tryz.params4] at ht
  have hm : t ∈ [9] := by simpa using Array.mem_of_getElem? ht
  simp only [List.mem_cons, List.mem_nil_iff, or_false] at hm
  subst hm
  exact (show Tryz.prog.wantsStandIn 9 = false by kernel_rfl)

theorem proved : Rows.MarkBackUptoCardSaid :=
  Claim7.holds_tied_plain_at .later [] _ _ _ _ row (fun _ h => by cases h) (by kernel_rfl) (fun _ h => by cases h) markBackUpto_row_tie rfl ⟨rfl, rfl⟩ (by kernel_rfl) rfl plain (by kernel_rfl)
end Go.Proofs.YtmceiehnfmgioaaGreatDoor.markBack
