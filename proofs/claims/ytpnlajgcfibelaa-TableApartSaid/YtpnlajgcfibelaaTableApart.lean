/- What is proved: TableApart holds of all widths: columns stand apart, none wider than asked for, none without a cell, all within the width. -/
import Derived.Test.YtpnlajgcfibelaaVk
import Derived.Test.YtpnlajgcfibelaaVi
import Derived.Test.YtpnlajgcfibelaaPost
import Derived.ProofKit
import Derived.OpenShut
import Derived.Deep.DeepHandedRow
namespace Go.Proofs.Ytpnlajgcfibelaa.tableApart
open Go.ChangeShapes Go.WideShapes Go.ChangeAt Go.RowKit Go.Maps Go.Proofs.Ytpnlajgcfibelaa.Tb
open Go.ChangeMaps (open_string shut_string)
set_option linter.unusedVariables false
set_option linter.unusedSimpArgs false
/-- Where the columns ahead end. -/
def endAt (cs : List (Int × Int)) (k : Nat) : Int := if h : 0 < k ∧ k - 1 < cs.length then (cs[k - 1]'h.2).1 + (cs[k - 1]'h.2).2 else 0
theorem endAt_succ {cs : List (Int × Int)} {k : Nat} (h : k < cs.length) : endAt cs (k + 1) = cs[k].1 + cs[k].2 := by
  unfold endAt
  rw [dif_pos ⟨by omega, h⟩]
  rfl
theorem endAt_le {ws : List Int} {wide : Int} {cs : List (Int × Int)} (ha : Apart ws wide cs) {k : Nat} (h : k < cs.length) : endAt cs k ≤ cs[k].1 := by
  have := ha.nxt k h
  unfold endAt
  by_cases h0 : k = 0
  · subst h0
    rw [dif_neg (by omega)]
    simpa using this
  · rw [dif_neg h0] at this
    rw [dif_pos ⟨by omega, by omega⟩]
    exact this
set_option maxRecDepth 100000 in
set_option maxHeartbeats 4000000 in
theorem walk (v : Value) (ws : List Int) (x : Int) (W : World) (hR : RdZ (fun _ => True) W v ws) (hs : ws.length * 8 ≤ 140737488351232) (hx : (Lit.int .i64 x).wf = true) :
    Calls Try.prog 9 #[v, .int .i64 x] W fun e W' => e = .returned (.bool true) ∧ Below W.heap.size W W' := by
  obtain ⟨i0, hi0, hz0, hz1, hz2⟩ := info_parts infoI
  obtain ⟨E, hE⟩ : ∃ E, colsE ws x = E := ⟨_, rfl⟩
  obtain ⟨cs, hcs⟩ : ∃ cs, colsL ws x = cs := ⟨_, rfl⟩
  have HR := Lib.hid hR
  have HE := Lib.hid hE
  have HCS := Lib.hid hcs
  have HX := Lib.hid hx
  have M1 := Lib.hid (show 0 + ws.length ≤ maxLen by unfold maxLen; omega)
  have M2 := Lib.hid (show (0 + ws.length) * 8 ≤ 140737488355328 by omega)
  have HLI := Lib.hid hR.lies
  obtain ⟨pa, ca, rfl, _, _⟩ := sliceZ hR
  obtain ⟨n, hn⟩ : ∃ n, ws.length = n := ⟨_, rfl⟩
  have n62 : n ≤ 9223372036854775807 := by omega
  have HN := Lib.hid hn
  rw [hn] at HR M1 M2 HLI ⊢
  clear hR hcs hs hx hn
  go_enter Try.func9, Try.ntmps9
  go_wp2_with fail
  refine (awake_law W).mono ?_
  rintro e w1 ⟨rfl, b1⟩
  have B1 := Lib.hid b1
  have HL1 := Lib.hid (HLI.out.below b1)
  have E1 := Lib.hid (World.ownsRow_lit (e := 3) (size := 1) (base := w1.heap.size) w1 #[] 0 (Nat.le_refl _) (Nat.zero_le _) rfl)
  have E1s := Lib.hid (show w1.heap.size ≤ (w1.alloc (.cells #[] 3)).heap.size by simp)
  clear b1
  go_wp2_with (at_builtin; go_loud (refine wpList_append_lies' rfl _ _ 33 rfl w1.heap.size 3 i0 _ 1 8 Try.underlying33 hi0 hz0 hz1 hz2 rfl (by decide) _ _ _ rfl E1.out _ _ _ rfl (HL1.out.alloc _) M1.out M2.out E1s.out ?_); intro v5 w5 hown5 hg5; have HO5 := Lib.hid hown5; have B5 := Lib.hid (((Below.refl w1.heap.size w1).alloc (Nat.le_refl _) _).grown hg5 E1s.out (fun k hk => (E1.out.lt k hk).1)); clear hown5 hg5)
  have R5 : RdZ AnyB w5 v5 ws := any_z (RdZ.own (by simpa using HO5.out) (by rw [HN.out]))
  have B5W := Lib.hid (B1.out.trans (B5.out.mono B1.out.size))
  refine (columns_pro ws v5 x w5 R5 HX.out).mono ?_
  rintro e w6 ⟨v6, rfl, o6, b6⟩
  have B6 := Lib.hid (B5W.out.trans (b6.mono B5W.out.size))
  have R6 := Lib.hid (any_c o6)
  rw [HCS.out] at R6
  rw [HE.out]
  clear b6 o6 R5
  obtain ⟨p6, c6, rfl, hc1, hc2⟩ := sliceC R6.out
  obtain ⟨m, hm⟩ : ∃ m, cs.length = m := ⟨_, rfl⟩
  have HM := Lib.hid hm
  rw [hm] at R6 hc1 ⊢
  have m62 : m ≤ 9223372036854775807 := by omega
  have R6w := Lib.hid (HR.out.below B6.out)
  clear hm hc1
  by_cases h0 : E = 0
  · subst h0
    have HAP := Lib.hid (show Apart ws x cs by have := apart_of HE.out; rw [HCS.out] at this; exact this)
    have hmn : m = n := by rw [← HM.out, ← HN.out]; exact HAP.out.num
    have m0 : 0 < n := by
      have := (colsE_zero HE.out).2.1.1
      rw [HN.out] at this
      exact this
    subst hmn
    have t0 : ((m : Int) != (m : Int)) = false := by simp
    go_wp2_with fail
    go_loopw [7, 8] (fun e i wr => ∃ (k : Nat), i = .int .i64 k ∧ k ≤ m ∧ e = .int .i64 (endAt cs k) ∧ Hid (Below w6.heap.size w6 wr)) (fun _ i _ => m - (intOf i).toNat)
    case atStart => exact ⟨0, rfl, Nat.zero_le _, rfl, Lib.hid (Below.refl _ _)⟩
    case round =>
      obtain ⟨k, rfl, hk, rfl, HB⟩ := hrel
      by_cases hlt : k < m
      · have hkl : k < cs.length := by rw [HM.out]; exact hlt
        have hkw : k < ws.length := by rw [HN.out]; exact hlt
        obtain ⟨b1, o1, rfl, _, c0, c1⟩ := (R6.out.below HB.out).cell hkl
        obtain ⟨b2, o2, rfl, d0⟩ := (R6w.out.below HB.out).cell hkw
        have a1 := HAP.out.col k hkl
        have a2 := endAt_le HAP.out hkl
        have a3 := endAt_succ hkl
        rw [wAt_at hkw] at a1
        obtain ⟨c, hc⟩ : ∃ c, cs[k] = c := ⟨_, rfl⟩
        obtain ⟨z, hz⟩ : ∃ z, ws[k] = z := ⟨_, rfl⟩
        obtain ⟨q, hq⟩ : ∃ q, endAt cs k = q := ⟨_, rfl⟩
        rw [hc] at c0 c1 a1 a2 a3
        rw [hz] at d0 a1
        rw [hq] at a2 ⊢
        have HA3 := Lib.hid a3
        have HLT := Lib.hid hlt
        have f1 : decide (c.1 < q) = false := by simp; omega
        have f2 : decide (c.2 < 1) = false := by simp; omega
        have sw : IntKind.i64.wrap (c.1 + c.2) = c.1 + c.2 := IntWalk.i64_in _ (by omega)
        have k1 : (k : Int) < m := by omega
        obtain ⟨u1, u2, u3, u4, u5⟩ := a1
        clear hc hz hq a3 hlt hkl hkw
        by_cases g : 0 < z
        · have f3 : decide (z < c.2) = false := by simp; have := u5 g; omega
          clear u5
          go_upto_region 12 with fail
          go_quiet (fail)
          have h7 := dn_below (Below.refl wr.heap.size wr) nq
          have g0 := (h7.cell (p := ⟨b1, o1 + k * 2, none⟩) (cellInL c0)).trans c0
          have g1 := (h7.cell (p := ⟨b1, o1 + k * 2 + 1, none⟩) (cellInL c1)).trans c1
          have hB7 := dn_below HB.out nq
          obtain ⟨w7, hw7⟩ : ∃ w7, wr.drewN nq = w7 := ⟨_, rfl⟩
          rw [hw7] at g0 g1 hB7 ⊢
          have HB7 := Lib.hid hB7
          clear c0 c1 h7 hB7 hw7 d0 f1 f2 f3
          go_upto_region 14 with fail
          go_quiet (fail)
          go_wp2_with fail
          go_roundw
          case measure => have := HLT.out; simp [intOf]; omega
          case rel => exact ⟨k + 1, by go_num, HLT.out, by rw [HA3.out], Lib.hid (dn_below HB7.out _)⟩
        · have f3 : decide (0 < z) = false := by simp; omega
          clear u5
          go_upto_region 12 with fail
          go_quiet (fail)
          have h7 := dn_below (Below.refl wr.heap.size wr) nq
          have g0 := (h7.cell (p := ⟨b1, o1 + k * 2, none⟩) (cellInL c0)).trans c0
          have g1 := (h7.cell (p := ⟨b1, o1 + k * 2 + 1, none⟩) (cellInL c1)).trans c1
          have hB7 := dn_below HB.out nq
          obtain ⟨w7, hw7⟩ : ∃ w7, wr.drewN nq = w7 := ⟨_, rfl⟩
          rw [hw7] at g0 g1 hB7 ⊢
          have HB7 := Lib.hid hB7
          clear c0 c1 h7 hB7 hw7 d0 f1 f2 f3
          go_upto_region 14 with fail
          go_quiet (fail)
          go_wp2_with fail
          go_roundw
          case measure => have := HLT.out; simp [intOf]; omega
          case rel => exact ⟨k + 1, by go_num, HLT.out, by rw [HA3.out], Lib.hid (dn_below HB7.out _)⟩
      · obtain rfl : k = m := by omega
        have hzk : ¬ (k : Int) < k := by omega
        have hk1 : k - 1 < cs.length := by rw [HM.out]; omega
        have hf := HAP.out.fin (k - 1) hk1 (by rw [HM.out]; omega)
        rw [← endAt_succ hk1, show k - 1 + 1 = k by omega] at hf
        obtain ⟨q, hq⟩ : ∃ q, endAt cs k = q := ⟨_, rfl⟩
        rw [hq] at hf ⊢
        have hf2 : decide (q ≤ x) = true := decide_eq_true hf
        clear hlt hq hk1
        go_wp2_with fail
        go_ret
        exact ⟨rfl, B6.out.trans (HB.out.mono B6.out.size)⟩
  · have tE : (E != 0) = true := by simp [h0]
    have hm0 : m = 0 := by
      rw [← HM.out, ← HCS.out]
      unfold colsL
      rw [if_neg (by rw [HE.out]; exact h0)]
      rfl
    subst hm0
    go_wp2_with fail
    go_ret
    exact ⟨rfl, B6.out⟩

set_option maxRecDepth 100000 in
theorem contract (H : Type) (enc : TypeId × Value → H) (W : World) (base : Nat) (args : Array Value) (ds gs : List (DataW H)) (before : List MemPlace)
    (hval : ∀ (j : Nat) t v, Try.f9.params[j]? = some t → args[j]? = some v → Value.okWide Try.prog W .any base t v)
    (hW : DataW.Whole enc Try.prog Try.f9.params.toList Rows.tableApartSpec.vars false W args.toList ds gs before) (hsz0 : (DataW.weightsEach Try.prog (Try.f9.params.toList ++ Rows.tableApartSpec.plain.varTypes Try.prog) (ds ++ gs)).all (· ≤ reachBytes) = true) :
    Calls Try.prog 9 args W fun e W' => ∃ v, e = .returned v ∧ Rows.tableApartSpec.post enc Try.prog Try.f9 false true false false W args v W' := by
  have hW' := hW
  obtain ⟨p, q, hA0, hV, rfl, hfz, hnd⟩ := hW
  have hA : DataW.TrodAll enc Try.prog W 0 (fun _ => true) true Try.f9.params.toList args.toList ds p := hA0
  rw [Try.params9] at hA hval
  have hsz := hsz0
  rw [Try.params9] at hsz
  clear hsz0
  obtain ⟨v0, vs0, d0, ds0, p0, q0, hargs, rfl, rfl, h0, r0⟩ := trodAll_cons hA
  obtain ⟨v1, vs1, d1, ds1, p1, q1, rfl, rfl, rfl, h1, r1⟩ := trodAll_cons r0
  obtain ⟨rfl, rfl, rfl⟩ := trodAll_nil r1
  obtain rfl : args = #[v0, v1] := by cases args; simp_all
  obtain ⟨rfl, rfl⟩ := trodVars_none hV
  have hk0 := h0
  obtain ⟨l0, hR0, hD0⟩ := ints_read h0 (okWide_slice Try.underlying33 (hval 0 33 v0 rfl rfl))
  obtain ⟨a1, rfl, rfl, rfl, w1⟩ := open_int Try.underlying3 (hval 1 3 v1 rfl rfl) h1
  clear hA0
  have size0 := ints_reach hsz (j := 0) rfl rfl hD0
  refine (walk v0 l0 a1 W hR0 size0 w1).mono fun e W' ⟨he, hg⟩ => ?_
  subst he
  have hlt := hW'.lt
  exact ⟨_, rfl, post_of_below (pa := (p0 ++ ([] ++ []))) (pv := []) hW' (fun _ _ _ => trodAll_cons_mk (shut_bool Try.underlying4 _) trodAll_mk0) (fun sp hsp => (trodAll_cons_mk (Go.WideElems.Trod_stays (by kernel_rfl) (by kernel_rfl) (of_decide_eq_true (by kernel_rfl)) hk0 (fun p hp => hg.same (hlt p (by simp [hp]))) (fun p hp => hsp p (by simp [hp]))) (trodAll_cons_mk (shut_int Try.underlying3 w1) trodAll_mk0))) (fun _ _ => rfl) rfl hg (ok_one (by kernel_rfl) rfl (okWide_bool_mk Try.underlying4 _))⟩

theorem witness_row (os : Os) {H : Type} (enc : TypeId × Value → H) :
    (OpenSpec.ofChange Rows.tableApartSpec).preRow enc Try.prog Try.f9 Rows.tableApartRow.domain false Rows.tableApartRow.laid ((laidWorld os).forCall (fun _ _ => 0) ⟨#[], #[.slice none 0 0, .int .i64 0], []⟩).memory #[.slice none 0 0, .int .i64 0] := by
  have hw : (DataW.whole enc Try.prog ((laidWorld os).forCall (fun _ _ => 0) ⟨#[], #[.slice none 0 0, .int .i64 0], []⟩).memory Try.f9.params.toList Rows.tableApartSpec.vars false (#[.slice none 0 0, .int .i64 0] : Array Value).toList 8).map (fun x => (x.1, x.2.1)) =
      some ([.nil, .lit (.int .i64 0)], []) := by kernel_rfl
  obtain ⟨⟨x1, x2, x3⟩, hx, hx1⟩ := Option.map_eq_some_iff.1 hw
  simp only [Prod.mk.injEq] at hx1
  obtain ⟨rfl, rfl⟩ := hx1
  exact OpenSpec.preRow_of_cond 8 hx (by kernel_rfl) (fun k hk => by cases hk) (by kernel_rfl) (laid_met _)

set_option maxRecDepth 100000 in
theorem lifted (os : Os) (started : os.Started) (H : Type) (enc : TypeId × Value → H) (F : Stop.Interp) :
    ReturnsInHanded {} Try.checked os 9 .any ((OpenSpec.ofChange Rows.tableApartSpec).preRow enc Try.prog Try.f9 Rows.tableApartRow.domain false Rows.tableApartRow.laid) (((OpenSpec.ofChange Rows.tableApartSpec).at F).post enc Try.prog Try.f9 false true false false) := by
  refine returnsInHanded_of_row (C := Try.checked) (s := (OpenSpec.ofChange Rows.tableApartSpec)) own started (by kernel_rfl) Try.func9
    (witness_row_at (enc := enc) (C := Try.checked) false (laidWorld os) #[.slice none 0 0, .int .i64 0] rfl (by kernel_rfl) (by kernel_rfl) (by kernel_rfl) (witness_row os enc)) ?_
  intro W base args ds gs before hval hW _ hcond hsz hL hS _
  exact contract H enc W base args ds gs before hval hW hsz

set_option maxHeartbeats 16000000 in
theorem closed : joinedFacts Try.pinned.checked.prog 9 Try.f9 ((OpenSpec.ofChange Rows.tableApartSpec)).bare Rows.tableApartRow = true := by
  unfold joinedFacts
  repeat' (with_reducible refine Bool.and_eq_true_iff.2 ⟨?_, ?_⟩)
  all_goals (as_aux_lemma => kernel_rfl)
theorem named : Try.pinned.checked.prog.funcNamed Rows.tableApartRow.func = some 9 := by kernel_rfl
theorem inst : (Try.f9).isInstance Try.pinned.checked.prog Rows.tableApartRow.origin Rows.tableApartRow.targs := of_decide_eq_true (by kernel_rfl)
theorem wrap : (Try.f9).isWrapper Try.pinned.checked.prog Rows.tableApartRow.wrapper Rows.tableApartRow.mainSum := by
  unfold Func.isWrapper
  first | (rw [if_pos (by decide +kernel)]; kernel_rfl) | (rw [if_neg (by decide +kernel)]; exact ⟨rfl, rfl⟩)
theorem row : Rows.TableApartSaid :=
  OpenClaim.holds_of_cond 9 Try.f9 rfl rfl rfl rfl rfl rfl rfl ⟨rfl, rfl, rfl, rfl, rfl⟩ rfl rfl rfl rfl rfl named Try.func9 closed inst wrap
    (fun os started H enc _ F => by rw [OpenClaim.pre_eq_preRow]; exact lifted os started H enc F)

theorem proved : Rows.TableApartSaid := row
end Go.Proofs.Ytpnlajgcfibelaa.tableApart
