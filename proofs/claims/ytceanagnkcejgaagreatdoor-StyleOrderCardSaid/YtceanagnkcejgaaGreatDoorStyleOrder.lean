/- What is proved: StyleOrder holds of any sheet, any numbers and any number: the order of a sheet is no matter, nor is a style that nobody names as a parent. No condition but the form's own. -/
import Derived.Test.YtceanagnkcejgaaGreatDoorSaw
import Derived.Test.YtceanagnkcejgaaGreatDoorDo
import Derived.Test.YtceanagnkcejgaaGreatDoorPost
import Derived.Test.YtceanagnkcejgaaGreatDoorSLftz
import Derived.Test.YtceanagnkcejgaaGreatDoorCards
import Derived.Test.YtceanagnkcejgaaGreatDoorTie
import Derived.ProofKit
import Derived.OpenShut
import Derived.Deep.DeepHandedRow
import Derived.WideKeyArgs
import Derived.Deep.CutRange
import Derived.Deep.Cut
import Derived.BigQuiet
import Derived.Deep.QuietTactic
namespace Go.Proofs.YtceanagnkcejgaaGreatDoor.styleOrder
open Go.ChangeShapes Go.WideShapes Go.ChangeAt Go.RowKit
open Go.ChangeMaps (open_string shut_string)
set_option linter.unusedVariables false

section
variable {P : Program} {md : Region.Mode} {ops : Array Oper} {Q : Exit → Act → World → Prop} {S : World → Prop}
/-- One operation alone may come up. -/
theorem wpAnyH_one {i : Nat} {o : Oper} {fuel : Nat} {listed : Array Bool} {a : Act} {w : World} (hr : Region.ready md ops listed = [i]) (hi : ops[i]? = some o) (hw : Region.wanted o (yielded ops a.tmps) = true)
    (h : ∀ K' : Act → World → Prop, (∀ a' w', S w' → wpAnyH P md ops Q S fuel (listed.setIfInBounds i true) a' w' → K' a' w') → o.wp P a w K' Q) : wpAnyH P md ops Q S (fuel + 1) listed a w :=
  wpAnyH_all hr (by simp) (fun j hj => by
    obtain rfl : j = i := by simpa using hj
    exact op_via hi hw (fun K hK => h K (fun a' w' h1 h2 => hK a' w' ⟨h1, h2⟩)))
end
theorem new_row (w : World) (s : Sty) : ∀ (j : Nat) (u : Value), (styRow s)[j]? = some u → (w.alloc (.cells #[.string (bs s.nm), .string (bs s.pr), .int .i64 s.ch.on, .int .i64 s.ch.off, .int .i64 s.ch.col] 29)).cell? ((⟨w.heap.size, 0, none⟩ : Addr).add j) = some u := by
  intro j u hj
  rw [Addr.add_lit, Nat.zero_add, cell_of_row _ _ _ _ _ _ (heap_alloc_new w _)]
  simpa [styRow] using hj
theorem int_in {x : Int} (w : (Lit.int .i64 x).wf = true) : In64 x := in64_wf w

set_option maxRecDepth 100000 in
set_option maxHeartbeats 16000000 in
theorem walk (v : Value) (l : List Sty) (vp : Value) (zs : List Int) (out : Int) (W : World) (hs : Sh W v l ∧ Fit l) (hsz : l.length * 56 ≤ 140737488351232) (hp : RdI W vp zs ∧ ∀ x ∈ zs, In64 x) (hpz : zs.length * 8 ≤ 140737488351232) (ho : (Lit.int .i64 out).wf = true) (hT : Tabs W) :
    Calls Tryz.prog 7 #[v, vp, .int .i64 out] W fun e W' => e = .returned (.bool true) ∧ Below W.heap.size W W' := by
  obtain ⟨i0, hi0, hz0, hz1, hz2⟩ := info_parts infoSty
  have AG := Lib.hid (show (Value.agg #[.string .empty, .string .empty, .int .i64 0, .int .i64 0, .int .i64 0]).cells.size = 5 from rfl)
  have HT := Lib.hid hT
  have HS := Lib.hid hs.1
  have HF := Lib.hid hs.2
  have HZ := Lib.hid (show l.length * 56 ≤ 140737488352000 by omega)
  have HP := Lib.hid hp.1
  obtain ⟨pa, cap, rfl, hc1, hc2⟩ := hs.1.form
  obtain ⟨pp, cp, rfl, hd1, hd2⟩ := hp.1.form
  unfold maxLen at hc2 hd2
  obtain ⟨⟨ca, cn⟩, hck⟩ : ∃ c, checkM l = c := ⟨_, rfl⟩
  have HCK := Lib.hid (fun w h => check_ref l (.slice pa l.length cap) w h HF.out)
  rw [hck] at HCK
  unfold ckV at HCK
  have hgd := @checkM_good l
  rw [hck] at hgd
  have HPI := Lib.hid hp.2
  obtain ⟨N, hN⟩ : ∃ N, l.length = N := ⟨_, rfl⟩
  have HN := Lib.hid hN
  rw [hN] at HCK hc1 ⊢
  clear hs hsz hT hp hck hN
  go_enter Tryz.func7, Tryz.ntmps7
  go_wp2_with fail
  refine (awake_law W HT.out).mono ?_
  rintro e w1 ⟨rfl, hb⟩
  have HB1 := Lib.hid hb
  clear hb
  go_wp2_with fail
  refine (HCK.out w1 (by rw [← HN.out]; exact HS.out.below HB1.out)).mono ?_
  rintro e w2 ⟨rfl, hb⟩
  have HB2 := Lib.hid (HB1.out.trans (hb.mono HB1.out.size))
  clear hb
  by_cases hcn : cn = 0
  case neg =>
    have t1 : ((cn : Int) != 0) = true := natne hcn
    clear hcn hgd
    go_wp2_with fail
    go_ret
    exact ⟨rfl, HB2.out⟩
  have HG := Lib.hid (hgd.1 hcn)
  subst hcn
  clear hgd
  by_cases hn0 : N = 0
  case pos =>
    have t2 : ((N : Int) == 0) = true := by rw [hn0]; rfl
    clear hn0
    go_wp2_with fail
    go_ret
    exact ⟨rfl, HB2.out⟩
  have t2 : ((N : Int) == 0) = false := by simp; omega
  have HN0 := Lib.hid (show 0 < N by omega)
  have HN64 := Lib.hid (show N ≤ 64 by rw [← HN.out]; exact HG.out.few)
  clear hn0
  have hTW := twin_law l (.slice pa N cap) w2 (by rw [← HN.out]; exact HS.out.below HB2.out) HZ.out
  have HTW := Lib.hid hTW
  clear hTW
  go_wp2_with fail
  refine HTW.out.mono ?_
  rintro e w3 ⟨vt, rfl, ho3, hb⟩
  obtain ⟨gt, ct, rfl, ct1, ct2, hgt1, hgt2, hrow⟩ := TRow.made (by rw [HN.out]; exact HN0.out) ho3
  have HGT := Lib.hid (show W.heap.size ≤ gt by have := HB2.out.size; omega)
  have HR3 := Lib.hid hrow
  have HB3 := Lib.hid (HB2.out.trans (hb.mono HB2.out.size))
  have HCT := Lib.hid (And.intro ct1 ct2)
  rw [HN.out] at ct1 ⊢
  unfold maxLen at ct2
  have n1 : (0 : Int) < N := by have := HN0.out; omega
  have n2 : (N : Int) ≤ 64 := by have := HN64.out; omega
  clear ho3 hb hgt1 hgt2 hrow
  go_wp2_with fail
  go_loopw [10, 11, 12] (fun i _ _ wr => ∃ (j : Nat) (T : List Sty), i = .int .i64 j ∧ j ≤ zs.length ∧ Hid (T.Perm l) ∧ TRow wr gt T ∧ Below W.heap.size W wr) (fun i _ _ _ => zs.length - (intOf i).toNat)
  case atStart => exact ⟨0, l, rfl, Nat.zero_le _, List.Perm.refl _, HR3.out, HB3.out⟩
  case round =>
    obtain ⟨j, T, rfl, hj, HTP, hrow, hbw⟩ := hrel
    have HR := Lib.hid hrow
    have HB := Lib.hid hbw
    have hTl : T.length = N := by rw [HTP.out.length_eq, HN.out]
    have HTL := Lib.hid hTl
    have hjz : (j : Int) ≤ 140737488351232 := by omega
    clear hrow hbw hTl
    by_cases hlt : j < zs.length
    · obtain ⟨b, off, rfl, d0⟩ := (HP.out.below HB.out).cell hlt
      obtain ⟨z, hzd⟩ : ∃ z, zs[j] = z := ⟨_, rfl⟩
      rw [hzd] at d0
      obtain ⟨q, hq1, hq2, hq3, hq4, hq5, hq6⟩ := tmod_two z N HN0.out
      obtain ⟨a, ha⟩ : ∃ a, j % N = a := ⟨_, rfl⟩
      have ha1 : a < N := by rw [← ha]; exact Nat.mod_lt _ HN0.out
      have ha2 : (j : Int).tmod N = (a : Int) := by rw [← ha]; rfl
      have hlt2 : (j : Int) < zs.length := by omega
      have a1 : (a : Int) < N := by omega
      have q1 : (q : Int) < N := by omega
      have nz : ((N : Int) == 0) = false := t2
      have HA1 := Lib.hid ha1
      have HQ1 := Lib.hid hq1
      clear hzd ha ha1 hq1
      go_wp2_with fail
      go_quiet (fail)
      have HRq := Lib.hid (show TRow (wr.drewN nq) gt T from HR.out)
      have HBq := Lib.hid (show Below W.heap.size W (wr.drewN nq) from ⟨HB.out.os, HB.out.tape, HB.out.output, HB.out.size, HB.out.block⟩)
      obtain ⟨wq, hwq⟩ : ∃ wq, wr.drewN nq = wq := ⟨_, rfl⟩
      rw [hwq] at HRq HBq ⊢
      clear hwq hq2 hq3 hq4 hq5 hq6 ha2 d0
      go_wp2_with fail
      refine wp_region_held_drew (S := fun _ => True) (by kernel_rfl) trivial (fun hHeld => ?_)
      have HRd := Lib.hid (show TRow wq.drew gt T from HRq.out)
      have HBd := Lib.hid HBq.out.drew
      obtain ⟨wd, hwd⟩ : ∃ wd, wq.drew = wd := ⟨_, rfl⟩
      rw [hwd] at HRd HBd ⊢
      clear hwd
      obtain ⟨x0, x1, x2, x3, x4⟩ := HRd.out.cells (show a < T.length by rw [HTL.out]; exact HA1.out)
      obtain ⟨y0, y1, y2, y3, y4⟩ := HRd.out.cells (show q < T.length by rw [HTL.out]; exact HQ1.out)
      obtain ⟨sa, hsa⟩ : ∃ s, gets T a = s := ⟨_, rfl⟩
      obtain ⟨sb, hsb⟩ : ∃ s, gets T q = s := ⟨_, rfl⟩
      rw [hsa] at x0 x1 x2 x3 x4
      rw [hsb] at y0 y1 y2 y3 y4
      have HSA := Lib.hid hsa
      have HSB := Lib.hid hsb
      clear hsa hsb
      refine wpAnyH_take (i := 0) (v := .slice (some ⟨gt, 0, none⟩) N ct) rfl (by kernel_rfl) (by kernel_rfl) (by kernel_rfl) (fun _ _ _ h => h) (.inl ⟨by kernel_rfl, fun w' hS => by go_simp⟩) trivial ?_
      refine wpAnyH_take (i := 1) (v := .int .i64 (a : Nat)) rfl (by kernel_rfl) (by kernel_rfl) (by kernel_rfl) (fun _ _ _ h => h) (.inl ⟨by kernel_rfl, fun w' hS => by go_simp⟩) trivial ?_
      refine wpAnyH_take (i := 2) (v := .slice (some ⟨gt, 0, none⟩) N ct) rfl (by kernel_rfl) (by kernel_rfl) (by kernel_rfl) (fun _ _ _ h => h) (.inl ⟨by kernel_rfl, fun w' hS => by go_simp⟩) trivial ?_
      refine wpAnyH_take (i := 3) (v := .int .i64 (q : Nat)) rfl (by kernel_rfl) (by kernel_rfl) (by kernel_rfl) (fun _ _ _ h => h) (.inl ⟨by kernel_rfl, fun w' hS => by go_simp⟩) trivial ?_
      refine wpAnyH_take (i := 4) (v := .slice (some ⟨gt, 0, none⟩) N ct) rfl (by kernel_rfl) (by kernel_rfl) (by kernel_rfl) (fun _ _ _ h => h) (.inl ⟨by kernel_rfl, fun w' hS => by go_simp⟩) trivial ?_
      refine wpAnyH_take (i := 5) (v := .int .i64 (q : Nat)) rfl (by kernel_rfl) (by kernel_rfl) (by kernel_rfl) (fun _ _ _ h => h) (.inl ⟨by kernel_rfl, fun w' hS => by go_simp⟩) trivial ?_
      refine wpAnyH_take (i := 6) (v := .pointer (some ⟨gt, q * 5, none⟩)) rfl (by kernel_rfl) (by kernel_rfl) (by kernel_rfl) (fun _ _ _ h => h) (.inl ⟨by kernel_rfl, fun w' hS => by go_simp⟩) trivial ?_
      refine wpAnyH_take (i := 8) (v := .slice (some ⟨gt, 0, none⟩) N ct) rfl (by kernel_rfl) (by kernel_rfl) (by kernel_rfl) (fun _ _ _ h => h) (.inl ⟨by kernel_rfl, fun w' hS => by go_simp⟩) trivial ?_
      refine wpAnyH_take (i := 9) (v := .int .i64 (a : Nat)) rfl (by kernel_rfl) (by kernel_rfl) (by kernel_rfl) (fun _ _ _ h => h) (.inl ⟨by kernel_rfl, fun w' hS => by go_simp⟩) trivial ?_
      refine wpAnyH_take (i := 10) (v := .pointer (some ⟨gt, a * 5, none⟩)) rfl (by kernel_rfl) (by kernel_rfl) (by kernel_rfl) (fun _ _ _ h => h) (.inl ⟨by kernel_rfl, fun w' hS => by go_simp⟩) trivial ?_
      refine wpAnyH_all (rs := [7, 11]) (by kernel_rfl) (by simp) ?_
      intro i' hi'
      rcases (by simpa using hi' : i' = 7 ∨ i' = 11) with rfl | rfl
      · clear hi'
        refine op_via rfl (by kernel_rfl) (fun K hK => ?_)
        go_simp
        refine hK _ _ ⟨trivial, ?_⟩
        clear hK K
        refine wpAnyH_one (i := 11) (by kernel_rfl) rfl (by kernel_rfl) (fun K hK => ?_)
        go_simp
        refine hK _ _ trivial ?_
        clear hK K
        refine wpAnyH_take (i := 12) (v := .pointer (some ⟨gt, a * 5, none⟩)) rfl (by kernel_rfl) (by kernel_rfl) (by kernel_rfl) (fun _ _ _ h => h) (.inl ⟨by kernel_rfl, fun w' hS => by go_simp⟩) trivial ?_
        clear x0 x1 x2 x3 x4 y0 y1 y2 y3 y4
        have z0 := HRd.out.free (a * 5)
        have z1 := HRd.out.free (a * 5 + 1)
        have z2 := HRd.out.free (a * 5 + 2)
        have z3 := HRd.out.free (a * 5 + 3)
        have z4 := HRd.out.free (a * 5 + 4)
        obtain ⟨u0, u1, u2, u3, u4⟩ := HRd.out.cells (show a < T.length by rw [HTL.out]; exact HA1.out)
        refine wpAnyH_one (i := 13) (by kernel_rfl) rfl (by kernel_rfl) (fun K hK => ?_)
        go_simp
        refine hK _ _ trivial ?_
        clear hK K z0 z1 z2 z3 z4 u0 u1 u2 u3 u4
        have hr13 := HRd.out.set (show a < T.length by rw [HTL.out]; exact HA1.out) sb
        have hb13 := ((((HBd.out.setCell (p := ⟨gt, a * 5, none⟩) HGT.out (.string (bs sb.nm))).setCell (p := ⟨gt, a * 5 + 1, none⟩) HGT.out (.string (bs sb.pr))).setCell (p := ⟨gt, a * 5 + 2, none⟩) HGT.out (.int .i64 sb.ch.on)).setCell (p := ⟨gt, a * 5 + 3, none⟩) HGT.out (.int .i64 sb.ch.off)).setCell (p := ⟨gt, a * 5 + 4, none⟩) HGT.out (.int .i64 sb.ch.col)
        obtain ⟨we, hwe⟩ : ∃ we, ((((wd.setCell ⟨gt, a * 5, none⟩ (.string (bs sb.nm))).setCell ⟨gt, a * 5 + 1, none⟩ (.string (bs sb.pr))).setCell ⟨gt, a * 5 + 2, none⟩ (.int .i64 sb.ch.on)).setCell ⟨gt, a * 5 + 3, none⟩ (.int .i64 sb.ch.off)).setCell ⟨gt, a * 5 + 4, none⟩ (.int .i64 sb.ch.col) = we := ⟨_, rfl⟩
        rw [hwe] at hr13 hb13 ⊢
        have HRe := Lib.hid hr13
        have HBe := Lib.hid hb13
        clear hwe hr13 hb13
        refine wpAnyH_take (i := 14) (v := .pointer (some ⟨gt, q * 5, none⟩)) rfl (by kernel_rfl) (by kernel_rfl) (by kernel_rfl) (fun _ _ _ h => h) (.inl ⟨by kernel_rfl, fun w' hS => by go_simp⟩) trivial ?_
        have z0 := HRe.out.free (q * 5)
        have z1 := HRe.out.free (q * 5 + 1)
        have z2 := HRe.out.free (q * 5 + 2)
        have z3 := HRe.out.free (q * 5 + 3)
        have z4 := HRe.out.free (q * 5 + 4)
        obtain ⟨u0, u1, u2, u3, u4⟩ := HRe.out.cells (show q < (T.set a sb).length by rw [List.length_set, HTL.out]; exact HQ1.out)
        refine wpAnyH_one (i := 15) (by kernel_rfl) rfl (by kernel_rfl) (fun K hK => ?_)
        go_simp
        refine hK _ _ trivial ?_
        clear hK K z0 z1 z2 z3 z4 u0 u1 u2 u3 u4
        have hr15 := HRe.out.set (show q < (T.set a sb).length by rw [List.length_set, HTL.out]; exact HQ1.out) sa
        have hb15 := ((((HBe.out.setCell (p := ⟨gt, q * 5, none⟩) HGT.out (.string (bs sa.nm))).setCell (p := ⟨gt, q * 5 + 1, none⟩) HGT.out (.string (bs sa.pr))).setCell (p := ⟨gt, q * 5 + 2, none⟩) HGT.out (.int .i64 sa.ch.on)).setCell (p := ⟨gt, q * 5 + 3, none⟩) HGT.out (.int .i64 sa.ch.off)).setCell (p := ⟨gt, q * 5 + 4, none⟩) HGT.out (.int .i64 sa.ch.col)
        obtain ⟨wf, hwf⟩ : ∃ wf, ((((we.setCell ⟨gt, q * 5, none⟩ (.string (bs sa.nm))).setCell ⟨gt, q * 5 + 1, none⟩ (.string (bs sa.pr))).setCell ⟨gt, q * 5 + 2, none⟩ (.int .i64 sa.ch.on)).setCell ⟨gt, q * 5 + 3, none⟩ (.int .i64 sa.ch.off)).setCell ⟨gt, q * 5 + 4, none⟩ (.int .i64 sa.ch.col) = wf := ⟨_, rfl⟩
        rw [hwf] at hr15 hb15 ⊢
        have HRf := Lib.hid hr15
        have HBf := Lib.hid hb15
        clear hwf hr15 hb15
        refine wpAnyH_done (by kernel_rfl) ?_ _
        go_wp2_with fail
        go_roundw
        case rel =>
          refine ⟨j + 1, (T.set a sb).set q sa, by go_num, by omega, ?_, HRf.out, HBf.out⟩
          have h := swap_perm (T := T) (show a < T.length by rw [HTL.out]; exact HA1.out) (show q < T.length by rw [HTL.out]; exact HQ1.out)
          rw [HSA.out, HSB.out] at h
          exact h.trans HTP.out
        case measure => simp [intOf]; omega
      · clear hi'
        refine op_via rfl (by kernel_rfl) (fun K hK => ?_)
        go_simp
        refine hK _ _ ⟨trivial, ?_⟩
        clear hK K
        refine wpAnyH_one (i := 7) (by kernel_rfl) rfl (by kernel_rfl) (fun K hK => ?_)
        go_simp
        refine hK _ _ trivial ?_
        clear hK K
        refine wpAnyH_take (i := 12) (v := .pointer (some ⟨gt, a * 5, none⟩)) rfl (by kernel_rfl) (by kernel_rfl) (by kernel_rfl) (fun _ _ _ h => h) (.inl ⟨by kernel_rfl, fun w' hS => by go_simp⟩) trivial ?_
        clear x0 x1 x2 x3 x4 y0 y1 y2 y3 y4
        have z0 := HRd.out.free (a * 5)
        have z1 := HRd.out.free (a * 5 + 1)
        have z2 := HRd.out.free (a * 5 + 2)
        have z3 := HRd.out.free (a * 5 + 3)
        have z4 := HRd.out.free (a * 5 + 4)
        obtain ⟨u0, u1, u2, u3, u4⟩ := HRd.out.cells (show a < T.length by rw [HTL.out]; exact HA1.out)
        refine wpAnyH_one (i := 13) (by kernel_rfl) rfl (by kernel_rfl) (fun K hK => ?_)
        go_simp
        refine hK _ _ trivial ?_
        clear hK K z0 z1 z2 z3 z4 u0 u1 u2 u3 u4
        have hr13 := HRd.out.set (show a < T.length by rw [HTL.out]; exact HA1.out) sb
        have hb13 := ((((HBd.out.setCell (p := ⟨gt, a * 5, none⟩) HGT.out (.string (bs sb.nm))).setCell (p := ⟨gt, a * 5 + 1, none⟩) HGT.out (.string (bs sb.pr))).setCell (p := ⟨gt, a * 5 + 2, none⟩) HGT.out (.int .i64 sb.ch.on)).setCell (p := ⟨gt, a * 5 + 3, none⟩) HGT.out (.int .i64 sb.ch.off)).setCell (p := ⟨gt, a * 5 + 4, none⟩) HGT.out (.int .i64 sb.ch.col)
        obtain ⟨we, hwe⟩ : ∃ we, ((((wd.setCell ⟨gt, a * 5, none⟩ (.string (bs sb.nm))).setCell ⟨gt, a * 5 + 1, none⟩ (.string (bs sb.pr))).setCell ⟨gt, a * 5 + 2, none⟩ (.int .i64 sb.ch.on)).setCell ⟨gt, a * 5 + 3, none⟩ (.int .i64 sb.ch.off)).setCell ⟨gt, a * 5 + 4, none⟩ (.int .i64 sb.ch.col) = we := ⟨_, rfl⟩
        rw [hwe] at hr13 hb13 ⊢
        have HRe := Lib.hid hr13
        have HBe := Lib.hid hb13
        clear hwe hr13 hb13
        refine wpAnyH_take (i := 14) (v := .pointer (some ⟨gt, q * 5, none⟩)) rfl (by kernel_rfl) (by kernel_rfl) (by kernel_rfl) (fun _ _ _ h => h) (.inl ⟨by kernel_rfl, fun w' hS => by go_simp⟩) trivial ?_
        have z0 := HRe.out.free (q * 5)
        have z1 := HRe.out.free (q * 5 + 1)
        have z2 := HRe.out.free (q * 5 + 2)
        have z3 := HRe.out.free (q * 5 + 3)
        have z4 := HRe.out.free (q * 5 + 4)
        obtain ⟨u0, u1, u2, u3, u4⟩ := HRe.out.cells (show q < (T.set a sb).length by rw [List.length_set, HTL.out]; exact HQ1.out)
        refine wpAnyH_one (i := 15) (by kernel_rfl) rfl (by kernel_rfl) (fun K hK => ?_)
        go_simp
        refine hK _ _ trivial ?_
        clear hK K z0 z1 z2 z3 z4 u0 u1 u2 u3 u4
        have hr15 := HRe.out.set (show q < (T.set a sb).length by rw [List.length_set, HTL.out]; exact HQ1.out) sa
        have hb15 := ((((HBe.out.setCell (p := ⟨gt, q * 5, none⟩) HGT.out (.string (bs sa.nm))).setCell (p := ⟨gt, q * 5 + 1, none⟩) HGT.out (.string (bs sa.pr))).setCell (p := ⟨gt, q * 5 + 2, none⟩) HGT.out (.int .i64 sa.ch.on)).setCell (p := ⟨gt, q * 5 + 3, none⟩) HGT.out (.int .i64 sa.ch.off)).setCell (p := ⟨gt, q * 5 + 4, none⟩) HGT.out (.int .i64 sa.ch.col)
        obtain ⟨wf, hwf⟩ : ∃ wf, ((((we.setCell ⟨gt, q * 5, none⟩ (.string (bs sa.nm))).setCell ⟨gt, q * 5 + 1, none⟩ (.string (bs sa.pr))).setCell ⟨gt, q * 5 + 2, none⟩ (.int .i64 sa.ch.on)).setCell ⟨gt, q * 5 + 3, none⟩ (.int .i64 sa.ch.off)).setCell ⟨gt, q * 5 + 4, none⟩ (.int .i64 sa.ch.col) = wf := ⟨_, rfl⟩
        rw [hwf] at hr15 hb15 ⊢
        have HRf := Lib.hid hr15
        have HBf := Lib.hid hb15
        clear hwf hr15 hb15
        refine wpAnyH_done (by kernel_rfl) ?_ _
        go_wp2_with fail
        go_roundw
        case rel =>
          refine ⟨j + 1, (T.set a sb).set q sa, by go_num, by omega, ?_, HRf.out, HBf.out⟩
          have h := swap_perm (T := T) (show a < T.length by rw [HTL.out]; exact HA1.out) (show q < T.length by rw [HTL.out]; exact HQ1.out)
          rw [HSA.out, HSB.out] at h
          exact h.trans HTP.out
        case measure => simp [intOf]; omega
    · have hge : ¬ (j : Int) < zs.length := by omega
      obtain ⟨w4, hw4⟩ : ∃ w4 : World, w4 = wr := ⟨_, rfl⟩
      subst hw4
      obtain ⟨kq, hk1, hk2, hk3, hk4, hk5, hk6⟩ := tmod_two out N HN0.out
      have kq1 : (kq : Int) < N := by omega
      have HKQ := Lib.hid hk1
      have nz : ((N : Int) == 0) = false := t2
      have HSN := Lib.hid (show Sh W (.slice pa N cap) l by rw [← HN.out]; exact HS.out)
      obtain ⟨nk, hnk⟩ : ∃ nk, (gets l kq).nm = nk := ⟨_, rfl⟩
      have HNK := Lib.hid hnk
      clear hk1 hnk
      go_wp2_with fail
      go_loopw [14, 15, 16] (fun u nm i wr => ∃ (j : Nat) (less : List Sty) (nb : Bool), i = .int .i64 j ∧ j ≤ N ∧ nm = .bool nb ∧ Hid (nb = (l.take j).any fun s => decide (s.pr = nk)) ∧ Hid (less = (l.take j).eraseIdx kq) ∧ wr.ownsRow w4.heap.size 29 5 u less.length (styRows less) ∧ Below w4.heap.size w4 wr) (fun _ _ i _ => N - (intOf i).toNat)
      case atStart => exact ⟨0, [], false, rfl, Nat.zero_le _, rfl, rfl, by show [] = (l.take 0).eraseIdx kq; simp, World.ownsRow_nil _ _ _ _, Below.refl _ _⟩
      case round =>
        obtain ⟨j, less, nb, rfl, hj, rfl, HNB, HLS, hown, hbw⟩ := hrel
        have HO := Lib.hid hown
        have HBW := Lib.hid hbw
        have HB5 := Lib.hid (HB.out.trans (hbw.mono HB.out.size))
        clear hown hbw hk2 hk3 hk4 hk5 hk6
        by_cases hlt : j < N
        · have hjl : j < l.length := by rw [HN.out]; exact hlt
          have hkl : kq < l.length := by rw [HN.out]; exact HKQ.out
          obtain ⟨b, off, rfl, c0, c1, c2, c3, c4⟩ := (HSN.out.below HB5.out).cells hjl
          obtain ⟨b', off', e', k0, -, -, -, -⟩ := (HSN.out.below HB5.out).cells hkl
          cases e'
          rw [HNK.out] at k0
          have hany : (l.take (j + 1)).any (fun s => decide (s.pr = nk)) = (nb || decide ((gets l j).pr = nk)) := by
            rw [List.take_succ_eq_append_getElem hjl, List.any_append, ← HNB.out, gets_eq hjl]; simp
          have HLT := Lib.hid (less_take (k := kq) hjl)
          obtain ⟨s, hsd⟩ : ∃ s, gets l j = s := ⟨_, rfl⟩
          rw [hsd] at c0 c1 c2 c3 c4 hany HLT
          have hlt2 : (j : Int) < N := by omega
          have B1 := Lib.hid (show less.length + 1 ≤ maxLen by rw [HLS.out]; have := List.length_eraseIdx_le (l.take j) kq; have h2 := List.length_take_le j l; unfold maxLen; have := HN64.out; omega)
          have B2 := Lib.hid (show (less.length + 1) * 56 ≤ 140737488355328 by rw [HLS.out]; have := List.length_eraseIdx_le (l.take j) kq; have h2 := List.length_take_le j l; have := HN64.out; omega)
          have HSD := Lib.hid hsd
          clear hsd hjl hkl
          cases nb with
          | true =>
            have HANY := Lib.hid (show true = (l.take (j + 1)).any fun s => decide (s.pr = nk) by rw [hany]; rfl)
            clear hany
            by_cases hjk : j = kq
            · have tk : ((j : Int) != kq) = false := by rw [hjk]; simp
              have HL2 := Lib.hid (show less = (l.take (j + 1)).eraseIdx kq by rw [HLT.out, if_pos hjk, HLS.out])
              clear hjk
              go_wp2_with fail
              go_quiet (fail)
              go_wp2_with fail
              go_roundw
              case rel => exact ⟨j + 1, less, true, by go_num, by omega, by first | rfl | exact congrArg Value.bool t1 | simp [t1], HANY, HL2, own_drewN HO.out nq, below_draws' HBW.out nq⟩
              case measure => simp [intOf]; omega
            · have tk : ((j : Int) != kq) = true := by simp; omega
              have HL2 := Lib.hid (show less ++ [s] = (l.take (j + 1)).eraseIdx kq by rw [HLT.out, if_neg hjk, HLS.out])
              clear hjk
              go_wp2_with fail
              go_quiet (fail)
              have HOq := Lib.hid (own_drewN HO.out nq)
              have HBq := Lib.hid (below_draws' HBW.out nq)
              have r0 : (wr.drewN nq).cell? _ = _ := c0
              have r1 : (wr.drewN nq).cell? _ = _ := c1
              have r2 : (wr.drewN nq).cell? _ = _ := c2
              have r3 : (wr.drewN nq).cell? _ = _ := c3
              have r4 : (wr.drewN nq).cell? _ = _ := c4
              obtain ⟨wq, hwq⟩ : ∃ wq, wr.drewN nq = wq := ⟨_, rfl⟩
              rw [hwq] at HOq HBq r0 r1 r2 r3 r4 ⊢
              clear hwq c0 c1 c2 c3 c4 k0
              have B3 := Lib.hid (show w4.heap.size ≤ (wq.alloc (.cells #[.string (bs s.nm), .string (bs s.pr), .int .i64 s.ch.on, .int .i64 s.ch.off, .int .i64 s.ch.col] 29)).heap.size by have := HBq.out.size; rw [World.size_alloc]; exact Nat.le_succ_of_le this)
              go_wp2_with (at_builtin; go_loud (refine wpList_append_own _ rfl _ _ 22 rfl w4.heap.size 29 i0 (.agg #[.string .empty, .string .empty, .int .i64 0, .int .i64 0, .int .i64 0]) 5 56 Tryz.underlying22 hi0 hz0 hz1 hz2 rfl (by decide) _ _ _ rfl (HOq.out.alloc _) ⟨wq.heap.size, 0, none⟩ 1 1 (styRow s) rfl rfl (new_row wq s) (styRow_one s) B1.out B2.out B3.out ?_); intro v' w5 hown' hgrow _; have HO5 := Lib.hid hown'; have HB5' := Lib.hid ((HBq.out.alloc HBq.out.size _).grown hgrow B3.out (fun jj hj => (HOq.out.lt jj hj).1)); clear hown' hgrow)
              go_roundw
              case rel =>
                refine ⟨j + 1, less ++ [s], true, by go_num, by omega, by first | rfl | exact congrArg Value.bool t1 | simp [t1], HANY, HL2, ?_, HB5'.out⟩
                have h := HO5.out
                rw [List.length_append, styRows_app]
                simpa [styRows] using h
              case measure => simp [intOf]; omega
          | false =>
            by_cases he : s.pr = nk
            · have t1 : ((bs s.pr).toList == (bs nk).toList) = true := by rw [bs_eq]; simpa using he
              have HANY := Lib.hid (show true = (l.take (j + 1)).any fun s => decide (s.pr = nk) by rw [hany]; simp [he])
              clear hany he
              by_cases hjk : j = kq
              · have tk : ((j : Int) != kq) = false := by rw [hjk]; simp
                have HL2 := Lib.hid (show less = (l.take (j + 1)).eraseIdx kq by rw [HLT.out, if_pos hjk, HLS.out])
                clear hjk
                go_wp2_with fail
                go_quiet (fail)
                go_wp2_with fail
                go_roundw
                case rel => exact ⟨j + 1, less, true, by go_num, by omega, by first | rfl | exact congrArg Value.bool t1 | simp [t1], HANY, HL2, own_drewN HO.out nq, below_draws' HBW.out nq⟩
                case measure => simp [intOf]; omega
              · have tk : ((j : Int) != kq) = true := by simp; omega
                have HL2 := Lib.hid (show less ++ [s] = (l.take (j + 1)).eraseIdx kq by rw [HLT.out, if_neg hjk, HLS.out])
                clear hjk
                go_wp2_with fail
                go_quiet (fail)
                have HOq := Lib.hid (own_drewN HO.out nq)
                have HBq := Lib.hid (below_draws' HBW.out nq)
                have r0 : (wr.drewN nq).cell? _ = _ := c0
                have r1 : (wr.drewN nq).cell? _ = _ := c1
                have r2 : (wr.drewN nq).cell? _ = _ := c2
                have r3 : (wr.drewN nq).cell? _ = _ := c3
                have r4 : (wr.drewN nq).cell? _ = _ := c4
                obtain ⟨wq, hwq⟩ : ∃ wq, wr.drewN nq = wq := ⟨_, rfl⟩
                rw [hwq] at HOq HBq r0 r1 r2 r3 r4 ⊢
                clear hwq c0 c1 c2 c3 c4 k0
                have B3 := Lib.hid (show w4.heap.size ≤ (wq.alloc (.cells #[.string (bs s.nm), .string (bs s.pr), .int .i64 s.ch.on, .int .i64 s.ch.off, .int .i64 s.ch.col] 29)).heap.size by have := HBq.out.size; rw [World.size_alloc]; exact Nat.le_succ_of_le this)
                go_wp2_with (at_builtin; go_loud (refine wpList_append_own _ rfl _ _ 22 rfl w4.heap.size 29 i0 (.agg #[.string .empty, .string .empty, .int .i64 0, .int .i64 0, .int .i64 0]) 5 56 Tryz.underlying22 hi0 hz0 hz1 hz2 rfl (by decide) _ _ _ rfl (HOq.out.alloc _) ⟨wq.heap.size, 0, none⟩ 1 1 (styRow s) rfl rfl (new_row wq s) (styRow_one s) B1.out B2.out B3.out ?_); intro v' w5 hown' hgrow _; have HO5 := Lib.hid hown'; have HB5' := Lib.hid ((HBq.out.alloc HBq.out.size _).grown hgrow B3.out (fun jj hj => (HOq.out.lt jj hj).1)); clear hown' hgrow)
                go_roundw
                case rel =>
                  refine ⟨j + 1, less ++ [s], true, by go_num, by omega, by first | rfl | exact congrArg Value.bool t1 | simp [t1], HANY, HL2, ?_, HB5'.out⟩
                  have h := HO5.out
                  rw [List.length_append, styRows_app]
                  simpa [styRows] using h
                case measure => simp [intOf]; omega
            · have t1 : ((bs s.pr).toList == (bs nk).toList) = false := by rw [bs_eq]; simpa using he
              have HANY := Lib.hid (show false = (l.take (j + 1)).any fun s => decide (s.pr = nk) by rw [hany]; simp [he])
              clear hany he
              by_cases hjk : j = kq
              · have tk : ((j : Int) != kq) = false := by rw [hjk]; simp
                have HL2 := Lib.hid (show less = (l.take (j + 1)).eraseIdx kq by rw [HLT.out, if_pos hjk, HLS.out])
                clear hjk
                go_wp2_with fail
                go_quiet (fail)
                go_wp2_with fail
                go_roundw
                case rel => exact ⟨j + 1, less, false, by go_num, by omega, by first | rfl | exact congrArg Value.bool t1 | simp [t1], HANY, HL2, own_drewN HO.out nq, below_draws' HBW.out nq⟩
                case measure => simp [intOf]; omega
              · have tk : ((j : Int) != kq) = true := by simp; omega
                have HL2 := Lib.hid (show less ++ [s] = (l.take (j + 1)).eraseIdx kq by rw [HLT.out, if_neg hjk, HLS.out])
                clear hjk
                go_wp2_with fail
                go_quiet (fail)
                have HOq := Lib.hid (own_drewN HO.out nq)
                have HBq := Lib.hid (below_draws' HBW.out nq)
                have r0 : (wr.drewN nq).cell? _ = _ := c0
                have r1 : (wr.drewN nq).cell? _ = _ := c1
                have r2 : (wr.drewN nq).cell? _ = _ := c2
                have r3 : (wr.drewN nq).cell? _ = _ := c3
                have r4 : (wr.drewN nq).cell? _ = _ := c4
                obtain ⟨wq, hwq⟩ : ∃ wq, wr.drewN nq = wq := ⟨_, rfl⟩
                rw [hwq] at HOq HBq r0 r1 r2 r3 r4 ⊢
                clear hwq c0 c1 c2 c3 c4 k0
                have B3 := Lib.hid (show w4.heap.size ≤ (wq.alloc (.cells #[.string (bs s.nm), .string (bs s.pr), .int .i64 s.ch.on, .int .i64 s.ch.off, .int .i64 s.ch.col] 29)).heap.size by have := HBq.out.size; rw [World.size_alloc]; exact Nat.le_succ_of_le this)
                go_wp2_with (at_builtin; go_loud (refine wpList_append_own _ rfl _ _ 22 rfl w4.heap.size 29 i0 (.agg #[.string .empty, .string .empty, .int .i64 0, .int .i64 0, .int .i64 0]) 5 56 Tryz.underlying22 hi0 hz0 hz1 hz2 rfl (by decide) _ _ _ rfl (HOq.out.alloc _) ⟨wq.heap.size, 0, none⟩ 1 1 (styRow s) rfl rfl (new_row wq s) (styRow_one s) B1.out B2.out B3.out ?_); intro v' w5 hown' hgrow _; have HO5 := Lib.hid hown'; have HB5' := Lib.hid ((HBq.out.alloc HBq.out.size _).grown hgrow B3.out (fun jj hj => (HOq.out.lt jj hj).1)); clear hown' hgrow)
                go_roundw
                case rel =>
                  refine ⟨j + 1, less ++ [s], false, by go_num, by omega, by first | rfl | exact congrArg Value.bool t1 | simp [t1], HANY, HL2, ?_, HB5'.out⟩
                  have h := HO5.out
                  rw [List.length_append, styRows_app]
                  simpa [styRows] using h
                case measure => simp [intOf]; omega
        · have hge : ¬ (j : Int) < N := by omega
          have hje : j = l.length := by rw [HN.out]; omega
          have HLE := Lib.hid (show less = l.eraseIdx kq by rw [HLS.out, hje, List.take_length])
          have HNV := Lib.hid (show nb = l.any fun s => decide (s.pr = nk) by rw [HNB.out, hje, List.take_length])
          have hshl := Sh.own HO.out
          have HSL := Lib.hid hshl
          obtain ⟨pl, cl, rfl, cl1, cl2⟩ := hshl.form
          obtain ⟨w6, hw6⟩ : ∃ w6 : World, w6 = wr := ⟨_, rfl⟩
          subst hw6
          have HR6 := Lib.hid (HR.out.keep HBW.out)
          have HG2 := Lib.hid (perm_good HG.out HTP.out.symm)
          have HFT := Lib.hid (show Fit T from fun s hs => HF.out s (HTP.out.mem_iff.1 hs))
          have HFL := Lib.hid (show Fit less from fun s hs => HF.out s (by rw [HLE.out] at hs; exact List.mem_of_mem_eraseIdx hs))
          have HZT := Lib.hid (show T.length * 56 ≤ 140737488352000 by rw [HTL.out]; have := HN64.out; omega)
          have HZL := Lib.hid (show less.length * 56 ≤ 140737488352000 by rw [HLE.out]; have := List.length_eraseIdx_le l kq; have := HN64.out; have := HN.out; omega)
          have HST := Lib.hid (show Sh w6 (.slice (some ⟨gt, 0, none⟩) N ct) T by have h := HR6.out.sh (by rw [HTL.out]; exact ct1) (by unfold maxLen; exact ct2); rwa [HTL.out] at h)
          clear hje hshl
          unfold maxLen at cl2
          go_wp2_with fail
          go_loopw [17, 18, 19, 20, 21, 22, 23] (fun i _ _ _ _ _ _ wr => ∃ j : Nat, i = .int .i64 j ∧ j ≤ N ∧ Below w6.heap.size w6 wr) (fun i _ _ _ _ _ _ _ => N - (intOf i).toNat)
          case atStart => exact ⟨0, rfl, Nat.zero_le _, Below.refl _ _⟩
          case round =>
            obtain ⟨j, rfl, hj, hbw⟩ := hrel
            have HBW3 := Lib.hid hbw
            have HB7 := Lib.hid (HB5.out.trans (hbw.mono HB5.out.size))
            clear hbw
            by_cases hlt : j < N
            · have hjl : j < l.length := by rw [HN.out]; exact hlt
              obtain ⟨b, off, rfl, c0, _, _, _, _⟩ := (HSN.out.below HB7.out).cells hjl
              have hmem : gets l j ∈ l := by rw [gets_eq hjl]; exact List.getElem_mem hjl
              have hwl := whole_of HG.out hmem
              have hwt := HG2.out.2 _ hmem
              obtain ⟨c, hcd⟩ : ∃ c, wholeN ((pathN l 8 (gets l j)).getD []) = c := ⟨_, rfl⟩
              rw [hcd] at hwl
              rw [hwl] at hwt
              have hless : (∀ s ∈ l, s.pr ≠ nk) → j ≠ kq → wholeM less (gets l j).nm = (c, 0) := by
                intro h1 h2
                have := (less_good HG.out (k := kq) (by rw [HN.out]; exact HKQ.out) (by rw [HNK.out]; exact h1)).2 j hjl h2
                rw [HLE.out, this, hwl]
              obtain ⟨x, hxd⟩ : ∃ x, (gets l j).nm = x := ⟨_, rfl⟩
              rw [hxd] at hwl hwt hless c0
              have HWL := Lib.hid hwl
              have HWT := Lib.hid hwt
              have HWS := Lib.hid hless
              have HD := Lib.hid c0
              have HSV := Lib.hid (HSN.out.below HB7.out)
              have hlt2 : (j : Int) < N := by omega
              clear hjl hmem hwl hwt hless hxd hcd c0
              go_wp2_with fail
              go_cut [18, 19] from 117 to 181 (fun s8 s9 wx => (∃ B : Nat, s8 = .pointer (some ⟨B, 0, none⟩) ∧ wx.heap[B]? = some (.cells #[.int .i64 c.on, .int .i64 c.off, .int .i64 c.col] 27 (0, 0)) ∧ wr.heap.size ≤ B) ∧ s9 = .int .i64 0 ∧ Below wr.heap.size wr wx)
              case first =>
               have hS : Below wr.heap.size wr wr.drew := (Below.refl _ _).drew
               refine wp_region_held_drew (S := fun w' => Below wr.heap.size wr w') (by kernel_rfl) hS (fun hS => ?_)
               obtain ⟨wd, hwd⟩ : ∃ wd, wr.drew = wd := ⟨_, rfl⟩
               rw [hwd] at hS ⊢
               clear hwd
               refine wpAnyH_take (i := 0) (v := .slice (some ⟨b, off, none⟩) N cap) rfl (by kernel_rfl) (by kernel_rfl) (by kernel_rfl) (fun _ _ _ h => h) (.inl ⟨by kernel_rfl, fun w' hS => by go_simp⟩) hS ?_
               refine wpAnyH_take (i := 2) (v := .slice (some ⟨b, off, none⟩) N cap) rfl (by kernel_rfl) (by kernel_rfl) (by kernel_rfl) (fun _ _ _ h => h) (.inl ⟨by kernel_rfl, fun w' hS => by go_simp⟩) hS ?_
               refine wpAnyH_take (i := 3) (v := .int .i64 (j : Nat)) rfl (by kernel_rfl) (by kernel_rfl) (by kernel_rfl) (fun _ _ _ h => h) (.inl ⟨by kernel_rfl, fun w' hS => by go_simp⟩) hS ?_
               refine wpAnyH_take (i := 4) (v := .pointer (some ⟨b, off + j * 5, none⟩)) rfl (by kernel_rfl) (by kernel_rfl) (by kernel_rfl) (fun _ _ _ h => h) (.inl ⟨by kernel_rfl, fun w' hS => by go_simp⟩) hS ?_
               refine wpAnyH_take (i := 5) (v := .pointer (some ⟨b, off + j * 5, none⟩)) rfl (by kernel_rfl) (by kernel_rfl) (by kernel_rfl) (fun _ _ _ h => h) (.inl ⟨by kernel_rfl, fun w' hS => by go_simp⟩) hS ?_
               refine wpAnyH_take (i := 6) (v := .string (bs x)) rfl (by kernel_rfl) (by kernel_rfl) (by kernel_rfl) (fun _ _ _ h => h) (.inl ⟨by kernel_rfl, fun w' hS => by have hh := (hS.cell (p := ⟨b, off + j * 5, none⟩) (cell_in HD.out)).trans HD.out; go_simp⟩) hS ?_
               refine wpAnyH_all (rs := [1, 11]) (by kernel_rfl) (by simp) ?_
               intro i' hi'
               rcases (by simpa using hi' : i' = 1 ∨ i' = 11) with rfl | rfl
               · clear hi'
                 refine op_via rfl (by kernel_rfl) (fun K hK => ?_)
                 go_simp
                 refine (twin_law l _ _ (HSV.out.below hS) HZ.out).mono ?_
                 rintro e wq5 ⟨v5, rfl, ho5, hb⟩
                 have hs5 := Sh.own ho5
                 replace hS : Below wr.heap.size wr wq5 := hS.trans (hb.mono hS.size)
                 refine hK _ _ ⟨hS, ?_⟩
                 clear hK K hb ho5
                 refine wpAnyH_all (rs := [7, 11]) (by kernel_rfl) (by simp) ?_
                 intro i' hi'
                 rcases (by simpa using hi' : i' = 7 ∨ i' = 11) with rfl | rfl
                 · clear hi'
                   refine op_via rfl (by kernel_rfl) (fun K hK => ?_)
                   go_simp
                   refine (Whole_pro l x v5 _ hs5 HF.out).mono ?_
                   rw [HWL.out]
                   rintro e wq7 ⟨rfl, hb⟩
                   replace hS : Below wr.heap.size wr wq7 := hS.trans (hb.mono hS.size)
                   refine hK _ _ ⟨hS, ?_⟩
                   clear hK K hb hs5
                   unfold chgE chgVal
                   refine wpAnyH_take (i := 8) (v := .tuple #[.agg #[.int .i64 c.on, .int .i64 c.off, .int .i64 c.col], .int .i64 0]) rfl (by kernel_rfl) (by kernel_rfl) (by kernel_rfl) (fun _ _ _ h => h) (.inl ⟨by kernel_rfl, fun w' hS => by go_simp⟩) hS ?_
                   refine wpAnyH_take (i := 9) (v := .agg #[.int .i64 c.on, .int .i64 c.off, .int .i64 c.col]) rfl (by kernel_rfl) (by kernel_rfl) (by kernel_rfl) (fun _ _ _ h => h) (.inl ⟨by kernel_rfl, fun w' hS => by go_simp⟩) hS ?_
                   refine wpAnyH_take (i := 10) (v := .int .i64 0) rfl (by kernel_rfl) (by kernel_rfl) (by kernel_rfl) (fun _ _ _ h => h) (.inl ⟨by kernel_rfl, fun w' hS => by go_simp⟩) hS ?_
                   refine wpAnyH_one (i := 11) (by kernel_rfl) rfl (by kernel_rfl) (fun K hK => ?_)
                   go_simp
                   obtain ⟨B, hB⟩ : ∃ B, (wq7).heap.size = B := ⟨_, rfl⟩
                   have hA := (Below.refl _ (wq7)).alloc (Nat.le_refl _) (.cells #[.int .i64 0, .int .i64 0, .int .i64 0] 27)
                   have hX := heap_alloc_new (wq7) (.cells #[.int .i64 0, .int .i64 0, .int .i64 0] 27)
                   obtain ⟨wq9, hw7⟩ : ∃ w7, World.alloc (wq7) (.cells #[.int .i64 0, .int .i64 0, .int .i64 0] 27) = w7 := ⟨_, rfl⟩
                   rw [hw7] at hA hX
                   rw [hw7, hB]
                   rw [hB] at hX hA
                   have hBw : wr.heap.size ≤ B := by rw [← hB]; exact hS.size
                   replace hS : Below wr.heap.size wr wq9 := hS.trans (hA.mono hBw)
                   refine hK _ _ hS ?_
                   clear hK K hA hw7 hB
                   have HX := Lib.hid hX
                   have HBw := Lib.hid hBw
                   have z0 := frozen_of_row wq9 B 0 _ _ hX
                   have z1 := frozen_of_row wq9 B 1 _ _ hX
                   have z2 := frozen_of_row wq9 B 2 _ _ hX
                   have y0 : World.cell? wq9 ⟨B, 0, none⟩ = some (.int .i64 0) := by rw [cell_of_row _ _ _ _ _ _ hX]; rfl
                   have y1 : World.cell? wq9 ⟨B, 1, none⟩ = some (.int .i64 0) := by rw [cell_of_row _ _ _ _ _ _ hX]; rfl
                   have y2 : World.cell? wq9 ⟨B, 2, none⟩ = some (.int .i64 0) := by rw [cell_of_row _ _ _ _ _ _ hX]; rfl
                   clear hX hBw
                   refine wpAnyH_one (i := 12) (by kernel_rfl) rfl (by kernel_rfl) (fun K hK => ?_)
                   go_simp
                   obtain ⟨wst, hwst, hr8, k0, k1, k2, hbW⟩ := set3 HX.out (.int .i64 c.on) (.int .i64 c.off) (.int .i64 c.col)
                   rw [hwst]
                   replace hS : Below wr.heap.size wr wst := hS.trans (hbW.mono HBw.out)
                   refine hK _ _ hS ?_
                   clear hK K z0 z1 z2 y0 y1 y2 k0 k1 k2 hbW hwst
                   refine wpAnyH_take (i := 13) (v := .int .i64 0) rfl (by kernel_rfl) (by kernel_rfl) (by kernel_rfl) (fun _ _ _ h => h) (.inl ⟨by kernel_rfl, fun w' hS => by go_simp⟩) hS ?_
                   refine wpAnyH_done (by kernel_rfl) ?_ _
                   go_wp2_with fail
                   go_meet
                   case rel => exact ⟨⟨B, rfl, hr8, HBw.out⟩, rfl, hS⟩
                 · clear hi'
                   refine op_via rfl (by kernel_rfl) (fun K hK => ?_)
                   go_simp
                   replace hs5 := hs5.below ((Below.refl _ (wq5)).alloc (Nat.le_refl _) (.cells #[.int .i64 0, .int .i64 0, .int .i64 0] 27))
                   obtain ⟨B, hB⟩ : ∃ B, (wq5).heap.size = B := ⟨_, rfl⟩
                   have hA := (Below.refl _ (wq5)).alloc (Nat.le_refl _) (.cells #[.int .i64 0, .int .i64 0, .int .i64 0] 27)
                   have hX := heap_alloc_new (wq5) (.cells #[.int .i64 0, .int .i64 0, .int .i64 0] 27)
                   obtain ⟨wq8, hw7⟩ : ∃ w7, World.alloc (wq5) (.cells #[.int .i64 0, .int .i64 0, .int .i64 0] 27) = w7 := ⟨_, rfl⟩
                   rw [hw7] at hA hX hs5
                   rw [hw7, hB]
                   rw [hB] at hX hA
                   have hBw : wr.heap.size ≤ B := by rw [← hB]; exact hS.size
                   replace hS : Below wr.heap.size wr wq8 := hS.trans (hA.mono hBw)
                   refine hK _ _ ⟨hS, ?_⟩
                   clear hK K hA hw7 hB
                   refine wpAnyH_one (i := 7) (by kernel_rfl) rfl (by kernel_rfl) (fun K hK => ?_)
                   go_simp
                   refine (Whole_pro l x v5 _ hs5 HF.out).mono ?_
                   rw [HWL.out]
                   rintro e wq10 ⟨rfl, hb⟩
                   replace hX := (hb.block B (Array.getElem?_eq_some_iff.1 hX).1).trans hX
                   replace hS : Below wr.heap.size wr wq10 := hS.trans (hb.mono hS.size)
                   refine hK _ _ hS ?_
                   clear hK K hb hs5
                   unfold chgE chgVal
                   refine wpAnyH_take (i := 8) (v := .tuple #[.agg #[.int .i64 c.on, .int .i64 c.off, .int .i64 c.col], .int .i64 0]) rfl (by kernel_rfl) (by kernel_rfl) (by kernel_rfl) (fun _ _ _ h => h) (.inl ⟨by kernel_rfl, fun w' hS => by go_simp⟩) hS ?_
                   refine wpAnyH_take (i := 9) (v := .agg #[.int .i64 c.on, .int .i64 c.off, .int .i64 c.col]) rfl (by kernel_rfl) (by kernel_rfl) (by kernel_rfl) (fun _ _ _ h => h) (.inl ⟨by kernel_rfl, fun w' hS => by go_simp⟩) hS ?_
                   refine wpAnyH_take (i := 10) (v := .int .i64 0) rfl (by kernel_rfl) (by kernel_rfl) (by kernel_rfl) (fun _ _ _ h => h) (.inl ⟨by kernel_rfl, fun w' hS => by go_simp⟩) hS ?_
                   have HX := Lib.hid hX
                   have HBw := Lib.hid hBw
                   have z0 := frozen_of_row wq10 B 0 _ _ hX
                   have z1 := frozen_of_row wq10 B 1 _ _ hX
                   have z2 := frozen_of_row wq10 B 2 _ _ hX
                   have y0 : World.cell? wq10 ⟨B, 0, none⟩ = some (.int .i64 0) := by rw [cell_of_row _ _ _ _ _ _ hX]; rfl
                   have y1 : World.cell? wq10 ⟨B, 1, none⟩ = some (.int .i64 0) := by rw [cell_of_row _ _ _ _ _ _ hX]; rfl
                   have y2 : World.cell? wq10 ⟨B, 2, none⟩ = some (.int .i64 0) := by rw [cell_of_row _ _ _ _ _ _ hX]; rfl
                   clear hX hBw
                   refine wpAnyH_one (i := 12) (by kernel_rfl) rfl (by kernel_rfl) (fun K hK => ?_)
                   go_simp
                   obtain ⟨wst, hwst, hr8, k0, k1, k2, hbW⟩ := set3 HX.out (.int .i64 c.on) (.int .i64 c.off) (.int .i64 c.col)
                   rw [hwst]
                   replace hS : Below wr.heap.size wr wst := hS.trans (hbW.mono HBw.out)
                   refine hK _ _ hS ?_
                   clear hK K z0 z1 z2 y0 y1 y2 k0 k1 k2 hbW hwst
                   refine wpAnyH_take (i := 13) (v := .int .i64 0) rfl (by kernel_rfl) (by kernel_rfl) (by kernel_rfl) (fun _ _ _ h => h) (.inl ⟨by kernel_rfl, fun w' hS => by go_simp⟩) hS ?_
                   refine wpAnyH_done (by kernel_rfl) ?_ _
                   go_wp2_with fail
                   go_meet
                   case rel => exact ⟨⟨B, rfl, hr8, HBw.out⟩, rfl, hS⟩
               · clear hi'
                 refine op_via rfl (by kernel_rfl) (fun K hK => ?_)
                 go_simp
                 obtain ⟨B, hB⟩ : ∃ B, (wd).heap.size = B := ⟨_, rfl⟩
                 have hA := (Below.refl _ (wd)).alloc (Nat.le_refl _) (.cells #[.int .i64 0, .int .i64 0, .int .i64 0] 27)
                 have hX := heap_alloc_new (wd) (.cells #[.int .i64 0, .int .i64 0, .int .i64 0] 27)
                 obtain ⟨wq6, hw7⟩ : ∃ w7, World.alloc (wd) (.cells #[.int .i64 0, .int .i64 0, .int .i64 0] 27) = w7 := ⟨_, rfl⟩
                 rw [hw7] at hA hX
                 rw [hw7, hB]
                 rw [hB] at hX hA
                 have hBw : wr.heap.size ≤ B := by rw [← hB]; exact hS.size
                 replace hS : Below wr.heap.size wr wq6 := hS.trans (hA.mono hBw)
                 refine hK _ _ ⟨hS, ?_⟩
                 clear hK K hA hw7 hB
                 refine wpAnyH_one (i := 1) (by kernel_rfl) rfl (by kernel_rfl) (fun K hK => ?_)
                 go_simp
                 refine (twin_law l _ _ (HSV.out.below hS) HZ.out).mono ?_
                 rintro e wq11 ⟨v5, rfl, ho5, hb⟩
                 have hs5 := Sh.own ho5
                 replace hX := (hb.block B (Array.getElem?_eq_some_iff.1 hX).1).trans hX
                 replace hS : Below wr.heap.size wr wq11 := hS.trans (hb.mono hS.size)
                 refine hK _ _ hS ?_
                 clear hK K hb ho5
                 refine wpAnyH_one (i := 7) (by kernel_rfl) rfl (by kernel_rfl) (fun K hK => ?_)
                 go_simp
                 refine (Whole_pro l x v5 _ hs5 HF.out).mono ?_
                 rw [HWL.out]
                 rintro e wq12 ⟨rfl, hb⟩
                 replace hX := (hb.block B (Array.getElem?_eq_some_iff.1 hX).1).trans hX
                 replace hS : Below wr.heap.size wr wq12 := hS.trans (hb.mono hS.size)
                 refine hK _ _ hS ?_
                 clear hK K hb hs5
                 unfold chgE chgVal
                 refine wpAnyH_take (i := 8) (v := .tuple #[.agg #[.int .i64 c.on, .int .i64 c.off, .int .i64 c.col], .int .i64 0]) rfl (by kernel_rfl) (by kernel_rfl) (by kernel_rfl) (fun _ _ _ h => h) (.inl ⟨by kernel_rfl, fun w' hS => by go_simp⟩) hS ?_
                 refine wpAnyH_take (i := 9) (v := .agg #[.int .i64 c.on, .int .i64 c.off, .int .i64 c.col]) rfl (by kernel_rfl) (by kernel_rfl) (by kernel_rfl) (fun _ _ _ h => h) (.inl ⟨by kernel_rfl, fun w' hS => by go_simp⟩) hS ?_
                 refine wpAnyH_take (i := 10) (v := .int .i64 0) rfl (by kernel_rfl) (by kernel_rfl) (by kernel_rfl) (fun _ _ _ h => h) (.inl ⟨by kernel_rfl, fun w' hS => by go_simp⟩) hS ?_
                 have HX := Lib.hid hX
                 have HBw := Lib.hid hBw
                 have z0 := frozen_of_row wq12 B 0 _ _ hX
                 have z1 := frozen_of_row wq12 B 1 _ _ hX
                 have z2 := frozen_of_row wq12 B 2 _ _ hX
                 have y0 : World.cell? wq12 ⟨B, 0, none⟩ = some (.int .i64 0) := by rw [cell_of_row _ _ _ _ _ _ hX]; rfl
                 have y1 : World.cell? wq12 ⟨B, 1, none⟩ = some (.int .i64 0) := by rw [cell_of_row _ _ _ _ _ _ hX]; rfl
                 have y2 : World.cell? wq12 ⟨B, 2, none⟩ = some (.int .i64 0) := by rw [cell_of_row _ _ _ _ _ _ hX]; rfl
                 clear hX hBw
                 refine wpAnyH_one (i := 12) (by kernel_rfl) rfl (by kernel_rfl) (fun K hK => ?_)
                 go_simp
                 obtain ⟨wst, hwst, hr8, k0, k1, k2, hbW⟩ := set3 HX.out (.int .i64 c.on) (.int .i64 c.off) (.int .i64 c.col)
                 rw [hwst]
                 replace hS : Below wr.heap.size wr wst := hS.trans (hbW.mono HBw.out)
                 refine hK _ _ hS ?_
                 clear hK K z0 z1 z2 y0 y1 y2 k0 k1 k2 hbW hwst
                 refine wpAnyH_take (i := 13) (v := .int .i64 0) rfl (by kernel_rfl) (by kernel_rfl) (by kernel_rfl) (fun _ _ _ h => h) (.inl ⟨by kernel_rfl, fun w' hS => by go_simp⟩) hS ?_
                 refine wpAnyH_done (by kernel_rfl) ?_ _
                 go_wp2_with fail
                 go_meet
                 case rel => exact ⟨⟨B, rfl, hr8, HBw.out⟩, rfl, hS⟩
              case rest =>
               obtain ⟨⟨B1, rfl, hr8, hBw⟩, rfl, hS⟩ := hcut
               obtain ⟨w8, hw8⟩ : ∃ w8 : World, w8 = wc := ⟨_, rfl⟩
               subst hw8
               have HX1 := Lib.hid hr8
               have HB8 := Lib.hid (HB7.out.trans (hS.mono HB7.out.size))
               have HBW8 := Lib.hid (HBW3.out.trans (hS.mono HBW3.out.size))
               have HD8 := Lib.hid ((hS.cell (p := ⟨b, off + j * 5, none⟩) (cell_in HD.out)).trans HD.out)
               have HST8 := Lib.hid (HST.out.below HBW8.out)
               clear HD hr8 hBw hS
               have HD := HD8
               go_wp2_with fail
               go_cut [20, 21] from 117 to 181 (fun s8 s9 wx => (∃ B : Nat, s8 = .pointer (some ⟨B, 0, none⟩) ∧ wx.heap[B]? = some (.cells #[.int .i64 c.on, .int .i64 c.off, .int .i64 c.col] 27 (0, 0)) ∧ w8.heap.size ≤ B) ∧ s9 = .int .i64 0 ∧ Below w8.heap.size w8 wx)
               case first =>
                have hS : Below w8.heap.size w8 w8.drew := (Below.refl _ _).drew
                refine wp_region_held_drew (S := fun w' => Below w8.heap.size w8 w') (by kernel_rfl) hS (fun hS => ?_)
                obtain ⟨wd, hwd⟩ : ∃ wd, w8.drew = wd := ⟨_, rfl⟩
                rw [hwd] at hS ⊢
                clear hwd
                refine wpAnyH_take (i := 0) (v := .slice (some ⟨gt, 0, none⟩) N ct) rfl (by kernel_rfl) (by kernel_rfl) (by kernel_rfl) (fun _ _ _ h => h) (.inl ⟨by kernel_rfl, fun w' hS => by go_simp⟩) hS ?_
                refine wpAnyH_take (i := 2) (v := .slice (some ⟨b, off, none⟩) N cap) rfl (by kernel_rfl) (by kernel_rfl) (by kernel_rfl) (fun _ _ _ h => h) (.inl ⟨by kernel_rfl, fun w' hS => by go_simp⟩) hS ?_
                refine wpAnyH_take (i := 3) (v := .int .i64 (j : Nat)) rfl (by kernel_rfl) (by kernel_rfl) (by kernel_rfl) (fun _ _ _ h => h) (.inl ⟨by kernel_rfl, fun w' hS => by go_simp⟩) hS ?_
                refine wpAnyH_take (i := 4) (v := .pointer (some ⟨b, off + j * 5, none⟩)) rfl (by kernel_rfl) (by kernel_rfl) (by kernel_rfl) (fun _ _ _ h => h) (.inl ⟨by kernel_rfl, fun w' hS => by go_simp⟩) hS ?_
                refine wpAnyH_take (i := 5) (v := .pointer (some ⟨b, off + j * 5, none⟩)) rfl (by kernel_rfl) (by kernel_rfl) (by kernel_rfl) (fun _ _ _ h => h) (.inl ⟨by kernel_rfl, fun w' hS => by go_simp⟩) hS ?_
                refine wpAnyH_take (i := 6) (v := .string (bs x)) rfl (by kernel_rfl) (by kernel_rfl) (by kernel_rfl) (fun _ _ _ h => h) (.inl ⟨by kernel_rfl, fun w' hS => by have hh := (hS.cell (p := ⟨b, off + j * 5, none⟩) (cell_in HD.out)).trans HD.out; go_simp⟩) hS ?_
                refine wpAnyH_all (rs := [1, 11]) (by kernel_rfl) (by simp) ?_
                intro i' hi'
                rcases (by simpa using hi' : i' = 1 ∨ i' = 11) with rfl | rfl
                · clear hi'
                  refine op_via rfl (by kernel_rfl) (fun K hK => ?_)
                  go_simp
                  refine (twin_law T _ _ (HST8.out.below hS) HZT.out).mono ?_
                  rintro e wq5 ⟨v5, rfl, ho5, hb⟩
                  have hs5 := Sh.own ho5
                  replace hS : Below w8.heap.size w8 wq5 := hS.trans (hb.mono hS.size)
                  refine hK _ _ ⟨hS, ?_⟩
                  clear hK K hb ho5
                  refine wpAnyH_all (rs := [7, 11]) (by kernel_rfl) (by simp) ?_
                  intro i' hi'
                  rcases (by simpa using hi' : i' = 7 ∨ i' = 11) with rfl | rfl
                  · clear hi'
                    refine op_via rfl (by kernel_rfl) (fun K hK => ?_)
                    go_simp
                    refine (Whole_pro T x v5 _ hs5 HFT.out).mono ?_
                    rw [HWT.out]
                    rintro e wq7 ⟨rfl, hb⟩
                    replace hS : Below w8.heap.size w8 wq7 := hS.trans (hb.mono hS.size)
                    refine hK _ _ ⟨hS, ?_⟩
                    clear hK K hb hs5
                    unfold chgE chgVal
                    refine wpAnyH_take (i := 8) (v := .tuple #[.agg #[.int .i64 c.on, .int .i64 c.off, .int .i64 c.col], .int .i64 0]) rfl (by kernel_rfl) (by kernel_rfl) (by kernel_rfl) (fun _ _ _ h => h) (.inl ⟨by kernel_rfl, fun w' hS => by go_simp⟩) hS ?_
                    refine wpAnyH_take (i := 9) (v := .agg #[.int .i64 c.on, .int .i64 c.off, .int .i64 c.col]) rfl (by kernel_rfl) (by kernel_rfl) (by kernel_rfl) (fun _ _ _ h => h) (.inl ⟨by kernel_rfl, fun w' hS => by go_simp⟩) hS ?_
                    refine wpAnyH_take (i := 10) (v := .int .i64 0) rfl (by kernel_rfl) (by kernel_rfl) (by kernel_rfl) (fun _ _ _ h => h) (.inl ⟨by kernel_rfl, fun w' hS => by go_simp⟩) hS ?_
                    refine wpAnyH_one (i := 11) (by kernel_rfl) rfl (by kernel_rfl) (fun K hK => ?_)
                    go_simp
                    obtain ⟨B, hB⟩ : ∃ B, (wq7).heap.size = B := ⟨_, rfl⟩
                    have hA := (Below.refl _ (wq7)).alloc (Nat.le_refl _) (.cells #[.int .i64 0, .int .i64 0, .int .i64 0] 27)
                    have hX := heap_alloc_new (wq7) (.cells #[.int .i64 0, .int .i64 0, .int .i64 0] 27)
                    obtain ⟨wq9, hw7⟩ : ∃ w7, World.alloc (wq7) (.cells #[.int .i64 0, .int .i64 0, .int .i64 0] 27) = w7 := ⟨_, rfl⟩
                    rw [hw7] at hA hX
                    rw [hw7, hB]
                    rw [hB] at hX hA
                    have hBw : w8.heap.size ≤ B := by rw [← hB]; exact hS.size
                    replace hS : Below w8.heap.size w8 wq9 := hS.trans (hA.mono hBw)
                    refine hK _ _ hS ?_
                    clear hK K hA hw7 hB
                    have HX := Lib.hid hX
                    have HBw := Lib.hid hBw
                    have z0 := frozen_of_row wq9 B 0 _ _ hX
                    have z1 := frozen_of_row wq9 B 1 _ _ hX
                    have z2 := frozen_of_row wq9 B 2 _ _ hX
                    have y0 : World.cell? wq9 ⟨B, 0, none⟩ = some (.int .i64 0) := by rw [cell_of_row _ _ _ _ _ _ hX]; rfl
                    have y1 : World.cell? wq9 ⟨B, 1, none⟩ = some (.int .i64 0) := by rw [cell_of_row _ _ _ _ _ _ hX]; rfl
                    have y2 : World.cell? wq9 ⟨B, 2, none⟩ = some (.int .i64 0) := by rw [cell_of_row _ _ _ _ _ _ hX]; rfl
                    clear hX hBw
                    refine wpAnyH_one (i := 12) (by kernel_rfl) rfl (by kernel_rfl) (fun K hK => ?_)
                    go_simp
                    obtain ⟨wst, hwst, hr8, k0, k1, k2, hbW⟩ := set3 HX.out (.int .i64 c.on) (.int .i64 c.off) (.int .i64 c.col)
                    rw [hwst]
                    replace hS : Below w8.heap.size w8 wst := hS.trans (hbW.mono HBw.out)
                    refine hK _ _ hS ?_
                    clear hK K z0 z1 z2 y0 y1 y2 k0 k1 k2 hbW hwst
                    refine wpAnyH_take (i := 13) (v := .int .i64 0) rfl (by kernel_rfl) (by kernel_rfl) (by kernel_rfl) (fun _ _ _ h => h) (.inl ⟨by kernel_rfl, fun w' hS => by go_simp⟩) hS ?_
                    refine wpAnyH_done (by kernel_rfl) ?_ _
                    go_wp2_with fail
                    go_meet
                    case rel => exact ⟨⟨B, rfl, hr8, HBw.out⟩, rfl, hS⟩
                  · clear hi'
                    refine op_via rfl (by kernel_rfl) (fun K hK => ?_)
                    go_simp
                    replace hs5 := hs5.below ((Below.refl _ (wq5)).alloc (Nat.le_refl _) (.cells #[.int .i64 0, .int .i64 0, .int .i64 0] 27))
                    obtain ⟨B, hB⟩ : ∃ B, (wq5).heap.size = B := ⟨_, rfl⟩
                    have hA := (Below.refl _ (wq5)).alloc (Nat.le_refl _) (.cells #[.int .i64 0, .int .i64 0, .int .i64 0] 27)
                    have hX := heap_alloc_new (wq5) (.cells #[.int .i64 0, .int .i64 0, .int .i64 0] 27)
                    obtain ⟨wq8, hw7⟩ : ∃ w7, World.alloc (wq5) (.cells #[.int .i64 0, .int .i64 0, .int .i64 0] 27) = w7 := ⟨_, rfl⟩
                    rw [hw7] at hA hX hs5
                    rw [hw7, hB]
                    rw [hB] at hX hA
                    have hBw : w8.heap.size ≤ B := by rw [← hB]; exact hS.size
                    replace hS : Below w8.heap.size w8 wq8 := hS.trans (hA.mono hBw)
                    refine hK _ _ ⟨hS, ?_⟩
                    clear hK K hA hw7 hB
                    refine wpAnyH_one (i := 7) (by kernel_rfl) rfl (by kernel_rfl) (fun K hK => ?_)
                    go_simp
                    refine (Whole_pro T x v5 _ hs5 HFT.out).mono ?_
                    rw [HWT.out]
                    rintro e wq10 ⟨rfl, hb⟩
                    replace hX := (hb.block B (Array.getElem?_eq_some_iff.1 hX).1).trans hX
                    replace hS : Below w8.heap.size w8 wq10 := hS.trans (hb.mono hS.size)
                    refine hK _ _ hS ?_
                    clear hK K hb hs5
                    unfold chgE chgVal
                    refine wpAnyH_take (i := 8) (v := .tuple #[.agg #[.int .i64 c.on, .int .i64 c.off, .int .i64 c.col], .int .i64 0]) rfl (by kernel_rfl) (by kernel_rfl) (by kernel_rfl) (fun _ _ _ h => h) (.inl ⟨by kernel_rfl, fun w' hS => by go_simp⟩) hS ?_
                    refine wpAnyH_take (i := 9) (v := .agg #[.int .i64 c.on, .int .i64 c.off, .int .i64 c.col]) rfl (by kernel_rfl) (by kernel_rfl) (by kernel_rfl) (fun _ _ _ h => h) (.inl ⟨by kernel_rfl, fun w' hS => by go_simp⟩) hS ?_
                    refine wpAnyH_take (i := 10) (v := .int .i64 0) rfl (by kernel_rfl) (by kernel_rfl) (by kernel_rfl) (fun _ _ _ h => h) (.inl ⟨by kernel_rfl, fun w' hS => by go_simp⟩) hS ?_
                    have HX := Lib.hid hX
                    have HBw := Lib.hid hBw
                    have z0 := frozen_of_row wq10 B 0 _ _ hX
                    have z1 := frozen_of_row wq10 B 1 _ _ hX
                    have z2 := frozen_of_row wq10 B 2 _ _ hX
                    have y0 : World.cell? wq10 ⟨B, 0, none⟩ = some (.int .i64 0) := by rw [cell_of_row _ _ _ _ _ _ hX]; rfl
                    have y1 : World.cell? wq10 ⟨B, 1, none⟩ = some (.int .i64 0) := by rw [cell_of_row _ _ _ _ _ _ hX]; rfl
                    have y2 : World.cell? wq10 ⟨B, 2, none⟩ = some (.int .i64 0) := by rw [cell_of_row _ _ _ _ _ _ hX]; rfl
                    clear hX hBw
                    refine wpAnyH_one (i := 12) (by kernel_rfl) rfl (by kernel_rfl) (fun K hK => ?_)
                    go_simp
                    obtain ⟨wst, hwst, hr8, k0, k1, k2, hbW⟩ := set3 HX.out (.int .i64 c.on) (.int .i64 c.off) (.int .i64 c.col)
                    rw [hwst]
                    replace hS : Below w8.heap.size w8 wst := hS.trans (hbW.mono HBw.out)
                    refine hK _ _ hS ?_
                    clear hK K z0 z1 z2 y0 y1 y2 k0 k1 k2 hbW hwst
                    refine wpAnyH_take (i := 13) (v := .int .i64 0) rfl (by kernel_rfl) (by kernel_rfl) (by kernel_rfl) (fun _ _ _ h => h) (.inl ⟨by kernel_rfl, fun w' hS => by go_simp⟩) hS ?_
                    refine wpAnyH_done (by kernel_rfl) ?_ _
                    go_wp2_with fail
                    go_meet
                    case rel => exact ⟨⟨B, rfl, hr8, HBw.out⟩, rfl, hS⟩
                · clear hi'
                  refine op_via rfl (by kernel_rfl) (fun K hK => ?_)
                  go_simp
                  obtain ⟨B, hB⟩ : ∃ B, (wd).heap.size = B := ⟨_, rfl⟩
                  have hA := (Below.refl _ (wd)).alloc (Nat.le_refl _) (.cells #[.int .i64 0, .int .i64 0, .int .i64 0] 27)
                  have hX := heap_alloc_new (wd) (.cells #[.int .i64 0, .int .i64 0, .int .i64 0] 27)
                  obtain ⟨wq6, hw7⟩ : ∃ w7, World.alloc (wd) (.cells #[.int .i64 0, .int .i64 0, .int .i64 0] 27) = w7 := ⟨_, rfl⟩
                  rw [hw7] at hA hX
                  rw [hw7, hB]
                  rw [hB] at hX hA
                  have hBw : w8.heap.size ≤ B := by rw [← hB]; exact hS.size
                  replace hS : Below w8.heap.size w8 wq6 := hS.trans (hA.mono hBw)
                  refine hK _ _ ⟨hS, ?_⟩
                  clear hK K hA hw7 hB
                  refine wpAnyH_one (i := 1) (by kernel_rfl) rfl (by kernel_rfl) (fun K hK => ?_)
                  go_simp
                  refine (twin_law T _ _ (HST8.out.below hS) HZT.out).mono ?_
                  rintro e wq11 ⟨v5, rfl, ho5, hb⟩
                  have hs5 := Sh.own ho5
                  replace hX := (hb.block B (Array.getElem?_eq_some_iff.1 hX).1).trans hX
                  replace hS : Below w8.heap.size w8 wq11 := hS.trans (hb.mono hS.size)
                  refine hK _ _ hS ?_
                  clear hK K hb ho5
                  refine wpAnyH_one (i := 7) (by kernel_rfl) rfl (by kernel_rfl) (fun K hK => ?_)
                  go_simp
                  refine (Whole_pro T x v5 _ hs5 HFT.out).mono ?_
                  rw [HWT.out]
                  rintro e wq12 ⟨rfl, hb⟩
                  replace hX := (hb.block B (Array.getElem?_eq_some_iff.1 hX).1).trans hX
                  replace hS : Below w8.heap.size w8 wq12 := hS.trans (hb.mono hS.size)
                  refine hK _ _ hS ?_
                  clear hK K hb hs5
                  unfold chgE chgVal
                  refine wpAnyH_take (i := 8) (v := .tuple #[.agg #[.int .i64 c.on, .int .i64 c.off, .int .i64 c.col], .int .i64 0]) rfl (by kernel_rfl) (by kernel_rfl) (by kernel_rfl) (fun _ _ _ h => h) (.inl ⟨by kernel_rfl, fun w' hS => by go_simp⟩) hS ?_
                  refine wpAnyH_take (i := 9) (v := .agg #[.int .i64 c.on, .int .i64 c.off, .int .i64 c.col]) rfl (by kernel_rfl) (by kernel_rfl) (by kernel_rfl) (fun _ _ _ h => h) (.inl ⟨by kernel_rfl, fun w' hS => by go_simp⟩) hS ?_
                  refine wpAnyH_take (i := 10) (v := .int .i64 0) rfl (by kernel_rfl) (by kernel_rfl) (by kernel_rfl) (fun _ _ _ h => h) (.inl ⟨by kernel_rfl, fun w' hS => by go_simp⟩) hS ?_
                  have HX := Lib.hid hX
                  have HBw := Lib.hid hBw
                  have z0 := frozen_of_row wq12 B 0 _ _ hX
                  have z1 := frozen_of_row wq12 B 1 _ _ hX
                  have z2 := frozen_of_row wq12 B 2 _ _ hX
                  have y0 : World.cell? wq12 ⟨B, 0, none⟩ = some (.int .i64 0) := by rw [cell_of_row _ _ _ _ _ _ hX]; rfl
                  have y1 : World.cell? wq12 ⟨B, 1, none⟩ = some (.int .i64 0) := by rw [cell_of_row _ _ _ _ _ _ hX]; rfl
                  have y2 : World.cell? wq12 ⟨B, 2, none⟩ = some (.int .i64 0) := by rw [cell_of_row _ _ _ _ _ _ hX]; rfl
                  clear hX hBw
                  refine wpAnyH_one (i := 12) (by kernel_rfl) rfl (by kernel_rfl) (fun K hK => ?_)
                  go_simp
                  obtain ⟨wst, hwst, hr8, k0, k1, k2, hbW⟩ := set3 HX.out (.int .i64 c.on) (.int .i64 c.off) (.int .i64 c.col)
                  rw [hwst]
                  replace hS : Below w8.heap.size w8 wst := hS.trans (hbW.mono HBw.out)
                  refine hK _ _ hS ?_
                  clear hK K z0 z1 z2 y0 y1 y2 k0 k1 k2 hbW hwst
                  refine wpAnyH_take (i := 13) (v := .int .i64 0) rfl (by kernel_rfl) (by kernel_rfl) (by kernel_rfl) (fun _ _ _ h => h) (.inl ⟨by kernel_rfl, fun w' hS => by go_simp⟩) hS ?_
                  refine wpAnyH_done (by kernel_rfl) ?_ _
                  go_wp2_with fail
                  go_meet
                  case rel => exact ⟨⟨B, rfl, hr8, HBw.out⟩, rfl, hS⟩
               case rest =>
                obtain ⟨⟨B2, rfl, hr8, hBw⟩, rfl, hS⟩ := hcut
                obtain ⟨w9, hw9⟩ : ∃ w9 : World, w9 = wc := ⟨_, rfl⟩
                subst hw9
                have hx1 := (hS.block B1 (Array.getElem?_eq_some_iff.1 HX1.out).1).trans HX1.out
                have HY1 := Lib.hid hx1
                have HY2 := Lib.hid hr8
                have HB9 := Lib.hid (HB8.out.trans (hS.mono HB8.out.size))
                have HBW9 := Lib.hid (HBW8.out.trans (hS.mono HBW8.out.size))
                have HD9 := Lib.hid ((hS.cell (p := ⟨b, off + j * 5, none⟩) (cell_in HD.out)).trans HD.out)
                have u0 : w9.cell? ⟨B1, 0, none⟩ = some (.int .i64 c.on) := by rw [cell_of_row _ _ _ _ _ _ hx1]; rfl
                have u1 : w9.cell? ⟨B1, 1, none⟩ = some (.int .i64 c.off) := by rw [cell_of_row _ _ _ _ _ _ hx1]; rfl
                have u2 : w9.cell? ⟨B1, 2, none⟩ = some (.int .i64 c.col) := by rw [cell_of_row _ _ _ _ _ _ hx1]; rfl
                have v0 : w9.cell? ⟨B2, 0, none⟩ = some (.int .i64 c.on) := by rw [cell_of_row _ _ _ _ _ _ hr8]; rfl
                have v1 : w9.cell? ⟨B2, 1, none⟩ = some (.int .i64 c.off) := by rw [cell_of_row _ _ _ _ _ _ hr8]; rfl
                have v2 : w9.cell? ⟨B2, 2, none⟩ = some (.int .i64 c.col) := by rw [cell_of_row _ _ _ _ _ _ hr8]; rfl
                clear HD hr8 hBw hS hx1
                by_cases hjk : j = kq
                · have tk : ((j : Int) == kq) = true := by rw [hjk]; simp
                  clear hjk
                  go_wp2_with fail
                  refine (same_law c _).mono ?_
                  rintro e w10 ⟨rfl, hb⟩
                  have HB10 := Lib.hid (HBW9.out.trans (hb.mono HBW9.out.size))
                  clear hb u0 u1 u2 v0 v1 v2
                  go_wp2_with fail
                  go_roundw
                  case rel => exact ⟨j + 1, by go_num, by omega, HB10.out⟩
                  case measure => simp [intOf]; omega
                have tk : ((j : Int) == kq) = false := by simp; omega
                cases nb with
                | true =>
                  clear hjk
                  go_wp2_with fail
                  refine (same_law c _).mono ?_
                  rintro e w10 ⟨rfl, hb⟩
                  have HB10 := Lib.hid (HBW9.out.trans (hb.mono HBW9.out.size))
                  clear hb u0 u1 u2 v0 v1 v2
                  go_wp2_with fail
                  go_roundw
                  case rel => exact ⟨j + 1, by go_num, by omega, HB10.out⟩
                  case measure => simp [intOf]; omega
                | false =>
                  have hnone : ∀ s ∈ l, s.pr ≠ nk := by
                    intro s hs e
                    have h1 := HNV.out
                    have h2 : (l.any fun s => decide (s.pr = nk)) = true := List.any_eq_true.2 ⟨s, hs, by simpa using e⟩
                    rw [h2] at h1
                    cases h1
                  have HWQ := Lib.hid (HWS.out hnone hjk)
                  clear hnone hjk
                  go_wp2_with fail
                  refine (same_law c _).mono ?_
                  rintro e w10 ⟨rfl, hb⟩
                  have HB10 := Lib.hid (HB9.out.trans (hb.mono HB9.out.size))
                  have HBW10 := Lib.hid (HBW9.out.trans (hb.mono HBW9.out.size))
                  have HX10 := Lib.hid ((hb.block B1 (Array.getElem?_eq_some_iff.1 HY1.out).1).trans HY1.out)
                  have HD := Lib.hid ((hb.cell (p := ⟨b, off + j * 5, none⟩) (cell_in HD9.out)).trans HD9.out)
                  have HSL10 := Lib.hid (HSL.out.below HBW10.out)
                  clear hb u0 u1 u2 v0 v1 v2
                  go_wp2_with fail
                  go_cut [22, 23] from 117 to 181 (fun s8 s9 wx => (∃ B : Nat, s8 = .pointer (some ⟨B, 0, none⟩) ∧ wx.heap[B]? = some (.cells #[.int .i64 c.on, .int .i64 c.off, .int .i64 c.col] 27 (0, 0)) ∧ w10.heap.size ≤ B) ∧ s9 = .int .i64 0 ∧ Below w10.heap.size w10 wx)
                  case first =>
                   have hS : Below w10.heap.size w10 w10.drew := (Below.refl _ _).drew
                   refine wp_region_held_drew (S := fun w' => Below w10.heap.size w10 w') (by kernel_rfl) hS (fun hS => ?_)
                   obtain ⟨wd, hwd⟩ : ∃ wd, w10.drew = wd := ⟨_, rfl⟩
                   rw [hwd] at hS ⊢
                   clear hwd
                   refine wpAnyH_take (i := 0) (v := .slice pl less.length cl) rfl (by kernel_rfl) (by kernel_rfl) (by kernel_rfl) (fun _ _ _ h => h) (.inl ⟨by kernel_rfl, fun w' hS => by go_simp⟩) hS ?_
                   refine wpAnyH_take (i := 2) (v := .slice (some ⟨b, off, none⟩) N cap) rfl (by kernel_rfl) (by kernel_rfl) (by kernel_rfl) (fun _ _ _ h => h) (.inl ⟨by kernel_rfl, fun w' hS => by go_simp⟩) hS ?_
                   refine wpAnyH_take (i := 3) (v := .int .i64 (j : Nat)) rfl (by kernel_rfl) (by kernel_rfl) (by kernel_rfl) (fun _ _ _ h => h) (.inl ⟨by kernel_rfl, fun w' hS => by go_simp⟩) hS ?_
                   refine wpAnyH_take (i := 4) (v := .pointer (some ⟨b, off + j * 5, none⟩)) rfl (by kernel_rfl) (by kernel_rfl) (by kernel_rfl) (fun _ _ _ h => h) (.inl ⟨by kernel_rfl, fun w' hS => by go_simp⟩) hS ?_
                   refine wpAnyH_take (i := 5) (v := .pointer (some ⟨b, off + j * 5, none⟩)) rfl (by kernel_rfl) (by kernel_rfl) (by kernel_rfl) (fun _ _ _ h => h) (.inl ⟨by kernel_rfl, fun w' hS => by go_simp⟩) hS ?_
                   refine wpAnyH_take (i := 6) (v := .string (bs x)) rfl (by kernel_rfl) (by kernel_rfl) (by kernel_rfl) (fun _ _ _ h => h) (.inl ⟨by kernel_rfl, fun w' hS => by have hh := (hS.cell (p := ⟨b, off + j * 5, none⟩) (cell_in HD.out)).trans HD.out; go_simp⟩) hS ?_
                   refine wpAnyH_all (rs := [1, 11]) (by kernel_rfl) (by simp) ?_
                   intro i' hi'
                   rcases (by simpa using hi' : i' = 1 ∨ i' = 11) with rfl | rfl
                   · clear hi'
                     refine op_via rfl (by kernel_rfl) (fun K hK => ?_)
                     go_simp
                     refine (twin_law less _ _ (HSL10.out.below hS) HZL.out).mono ?_
                     rintro e wq5 ⟨v5, rfl, ho5, hb⟩
                     have hs5 := Sh.own ho5
                     replace hS : Below w10.heap.size w10 wq5 := hS.trans (hb.mono hS.size)
                     refine hK _ _ ⟨hS, ?_⟩
                     clear hK K hb ho5
                     refine wpAnyH_all (rs := [7, 11]) (by kernel_rfl) (by simp) ?_
                     intro i' hi'
                     rcases (by simpa using hi' : i' = 7 ∨ i' = 11) with rfl | rfl
                     · clear hi'
                       refine op_via rfl (by kernel_rfl) (fun K hK => ?_)
                       go_simp
                       refine (Whole_pro less x v5 _ hs5 HFL.out).mono ?_
                       rw [HWQ.out]
                       rintro e wq7 ⟨rfl, hb⟩
                       replace hS : Below w10.heap.size w10 wq7 := hS.trans (hb.mono hS.size)
                       refine hK _ _ ⟨hS, ?_⟩
                       clear hK K hb hs5
                       unfold chgE chgVal
                       refine wpAnyH_take (i := 8) (v := .tuple #[.agg #[.int .i64 c.on, .int .i64 c.off, .int .i64 c.col], .int .i64 0]) rfl (by kernel_rfl) (by kernel_rfl) (by kernel_rfl) (fun _ _ _ h => h) (.inl ⟨by kernel_rfl, fun w' hS => by go_simp⟩) hS ?_
                       refine wpAnyH_take (i := 9) (v := .agg #[.int .i64 c.on, .int .i64 c.off, .int .i64 c.col]) rfl (by kernel_rfl) (by kernel_rfl) (by kernel_rfl) (fun _ _ _ h => h) (.inl ⟨by kernel_rfl, fun w' hS => by go_simp⟩) hS ?_
                       refine wpAnyH_take (i := 10) (v := .int .i64 0) rfl (by kernel_rfl) (by kernel_rfl) (by kernel_rfl) (fun _ _ _ h => h) (.inl ⟨by kernel_rfl, fun w' hS => by go_simp⟩) hS ?_
                       refine wpAnyH_one (i := 11) (by kernel_rfl) rfl (by kernel_rfl) (fun K hK => ?_)
                       go_simp
                       obtain ⟨B, hB⟩ : ∃ B, (wq7).heap.size = B := ⟨_, rfl⟩
                       have hA := (Below.refl _ (wq7)).alloc (Nat.le_refl _) (.cells #[.int .i64 0, .int .i64 0, .int .i64 0] 27)
                       have hX := heap_alloc_new (wq7) (.cells #[.int .i64 0, .int .i64 0, .int .i64 0] 27)
                       obtain ⟨wq9, hw7⟩ : ∃ w7, World.alloc (wq7) (.cells #[.int .i64 0, .int .i64 0, .int .i64 0] 27) = w7 := ⟨_, rfl⟩
                       rw [hw7] at hA hX
                       rw [hw7, hB]
                       rw [hB] at hX hA
                       have hBw : w10.heap.size ≤ B := by rw [← hB]; exact hS.size
                       replace hS : Below w10.heap.size w10 wq9 := hS.trans (hA.mono hBw)
                       refine hK _ _ hS ?_
                       clear hK K hA hw7 hB
                       have HX := Lib.hid hX
                       have HBw := Lib.hid hBw
                       have z0 := frozen_of_row wq9 B 0 _ _ hX
                       have z1 := frozen_of_row wq9 B 1 _ _ hX
                       have z2 := frozen_of_row wq9 B 2 _ _ hX
                       have y0 : World.cell? wq9 ⟨B, 0, none⟩ = some (.int .i64 0) := by rw [cell_of_row _ _ _ _ _ _ hX]; rfl
                       have y1 : World.cell? wq9 ⟨B, 1, none⟩ = some (.int .i64 0) := by rw [cell_of_row _ _ _ _ _ _ hX]; rfl
                       have y2 : World.cell? wq9 ⟨B, 2, none⟩ = some (.int .i64 0) := by rw [cell_of_row _ _ _ _ _ _ hX]; rfl
                       clear hX hBw
                       refine wpAnyH_one (i := 12) (by kernel_rfl) rfl (by kernel_rfl) (fun K hK => ?_)
                       go_simp
                       obtain ⟨wst, hwst, hr8, k0, k1, k2, hbW⟩ := set3 HX.out (.int .i64 c.on) (.int .i64 c.off) (.int .i64 c.col)
                       rw [hwst]
                       replace hS : Below w10.heap.size w10 wst := hS.trans (hbW.mono HBw.out)
                       refine hK _ _ hS ?_
                       clear hK K z0 z1 z2 y0 y1 y2 k0 k1 k2 hbW hwst
                       refine wpAnyH_take (i := 13) (v := .int .i64 0) rfl (by kernel_rfl) (by kernel_rfl) (by kernel_rfl) (fun _ _ _ h => h) (.inl ⟨by kernel_rfl, fun w' hS => by go_simp⟩) hS ?_
                       refine wpAnyH_done (by kernel_rfl) ?_ _
                       go_wp2_with fail
                       go_meet
                       case rel => exact ⟨⟨B, rfl, hr8, HBw.out⟩, rfl, hS⟩
                     · clear hi'
                       refine op_via rfl (by kernel_rfl) (fun K hK => ?_)
                       go_simp
                       replace hs5 := hs5.below ((Below.refl _ (wq5)).alloc (Nat.le_refl _) (.cells #[.int .i64 0, .int .i64 0, .int .i64 0] 27))
                       obtain ⟨B, hB⟩ : ∃ B, (wq5).heap.size = B := ⟨_, rfl⟩
                       have hA := (Below.refl _ (wq5)).alloc (Nat.le_refl _) (.cells #[.int .i64 0, .int .i64 0, .int .i64 0] 27)
                       have hX := heap_alloc_new (wq5) (.cells #[.int .i64 0, .int .i64 0, .int .i64 0] 27)
                       obtain ⟨wq8, hw7⟩ : ∃ w7, World.alloc (wq5) (.cells #[.int .i64 0, .int .i64 0, .int .i64 0] 27) = w7 := ⟨_, rfl⟩
                       rw [hw7] at hA hX hs5
                       rw [hw7, hB]
                       rw [hB] at hX hA
                       have hBw : w10.heap.size ≤ B := by rw [← hB]; exact hS.size
                       replace hS : Below w10.heap.size w10 wq8 := hS.trans (hA.mono hBw)
                       refine hK _ _ ⟨hS, ?_⟩
                       clear hK K hA hw7 hB
                       refine wpAnyH_one (i := 7) (by kernel_rfl) rfl (by kernel_rfl) (fun K hK => ?_)
                       go_simp
                       refine (Whole_pro less x v5 _ hs5 HFL.out).mono ?_
                       rw [HWQ.out]
                       rintro e wq10 ⟨rfl, hb⟩
                       replace hX := (hb.block B (Array.getElem?_eq_some_iff.1 hX).1).trans hX
                       replace hS : Below w10.heap.size w10 wq10 := hS.trans (hb.mono hS.size)
                       refine hK _ _ hS ?_
                       clear hK K hb hs5
                       unfold chgE chgVal
                       refine wpAnyH_take (i := 8) (v := .tuple #[.agg #[.int .i64 c.on, .int .i64 c.off, .int .i64 c.col], .int .i64 0]) rfl (by kernel_rfl) (by kernel_rfl) (by kernel_rfl) (fun _ _ _ h => h) (.inl ⟨by kernel_rfl, fun w' hS => by go_simp⟩) hS ?_
                       refine wpAnyH_take (i := 9) (v := .agg #[.int .i64 c.on, .int .i64 c.off, .int .i64 c.col]) rfl (by kernel_rfl) (by kernel_rfl) (by kernel_rfl) (fun _ _ _ h => h) (.inl ⟨by kernel_rfl, fun w' hS => by go_simp⟩) hS ?_
                       refine wpAnyH_take (i := 10) (v := .int .i64 0) rfl (by kernel_rfl) (by kernel_rfl) (by kernel_rfl) (fun _ _ _ h => h) (.inl ⟨by kernel_rfl, fun w' hS => by go_simp⟩) hS ?_
                       have HX := Lib.hid hX
                       have HBw := Lib.hid hBw
                       have z0 := frozen_of_row wq10 B 0 _ _ hX
                       have z1 := frozen_of_row wq10 B 1 _ _ hX
                       have z2 := frozen_of_row wq10 B 2 _ _ hX
                       have y0 : World.cell? wq10 ⟨B, 0, none⟩ = some (.int .i64 0) := by rw [cell_of_row _ _ _ _ _ _ hX]; rfl
                       have y1 : World.cell? wq10 ⟨B, 1, none⟩ = some (.int .i64 0) := by rw [cell_of_row _ _ _ _ _ _ hX]; rfl
                       have y2 : World.cell? wq10 ⟨B, 2, none⟩ = some (.int .i64 0) := by rw [cell_of_row _ _ _ _ _ _ hX]; rfl
                       clear hX hBw
                       refine wpAnyH_one (i := 12) (by kernel_rfl) rfl (by kernel_rfl) (fun K hK => ?_)
                       go_simp
                       obtain ⟨wst, hwst, hr8, k0, k1, k2, hbW⟩ := set3 HX.out (.int .i64 c.on) (.int .i64 c.off) (.int .i64 c.col)
                       rw [hwst]
                       replace hS : Below w10.heap.size w10 wst := hS.trans (hbW.mono HBw.out)
                       refine hK _ _ hS ?_
                       clear hK K z0 z1 z2 y0 y1 y2 k0 k1 k2 hbW hwst
                       refine wpAnyH_take (i := 13) (v := .int .i64 0) rfl (by kernel_rfl) (by kernel_rfl) (by kernel_rfl) (fun _ _ _ h => h) (.inl ⟨by kernel_rfl, fun w' hS => by go_simp⟩) hS ?_
                       refine wpAnyH_done (by kernel_rfl) ?_ _
                       go_wp2_with fail
                       go_meet
                       case rel => exact ⟨⟨B, rfl, hr8, HBw.out⟩, rfl, hS⟩
                   · clear hi'
                     refine op_via rfl (by kernel_rfl) (fun K hK => ?_)
                     go_simp
                     obtain ⟨B, hB⟩ : ∃ B, (wd).heap.size = B := ⟨_, rfl⟩
                     have hA := (Below.refl _ (wd)).alloc (Nat.le_refl _) (.cells #[.int .i64 0, .int .i64 0, .int .i64 0] 27)
                     have hX := heap_alloc_new (wd) (.cells #[.int .i64 0, .int .i64 0, .int .i64 0] 27)
                     obtain ⟨wq6, hw7⟩ : ∃ w7, World.alloc (wd) (.cells #[.int .i64 0, .int .i64 0, .int .i64 0] 27) = w7 := ⟨_, rfl⟩
                     rw [hw7] at hA hX
                     rw [hw7, hB]
                     rw [hB] at hX hA
                     have hBw : w10.heap.size ≤ B := by rw [← hB]; exact hS.size
                     replace hS : Below w10.heap.size w10 wq6 := hS.trans (hA.mono hBw)
                     refine hK _ _ ⟨hS, ?_⟩
                     clear hK K hA hw7 hB
                     refine wpAnyH_one (i := 1) (by kernel_rfl) rfl (by kernel_rfl) (fun K hK => ?_)
                     go_simp
                     refine (twin_law less _ _ (HSL10.out.below hS) HZL.out).mono ?_
                     rintro e wq11 ⟨v5, rfl, ho5, hb⟩
                     have hs5 := Sh.own ho5
                     replace hX := (hb.block B (Array.getElem?_eq_some_iff.1 hX).1).trans hX
                     replace hS : Below w10.heap.size w10 wq11 := hS.trans (hb.mono hS.size)
                     refine hK _ _ hS ?_
                     clear hK K hb ho5
                     refine wpAnyH_one (i := 7) (by kernel_rfl) rfl (by kernel_rfl) (fun K hK => ?_)
                     go_simp
                     refine (Whole_pro less x v5 _ hs5 HFL.out).mono ?_
                     rw [HWQ.out]
                     rintro e wq12 ⟨rfl, hb⟩
                     replace hX := (hb.block B (Array.getElem?_eq_some_iff.1 hX).1).trans hX
                     replace hS : Below w10.heap.size w10 wq12 := hS.trans (hb.mono hS.size)
                     refine hK _ _ hS ?_
                     clear hK K hb hs5
                     unfold chgE chgVal
                     refine wpAnyH_take (i := 8) (v := .tuple #[.agg #[.int .i64 c.on, .int .i64 c.off, .int .i64 c.col], .int .i64 0]) rfl (by kernel_rfl) (by kernel_rfl) (by kernel_rfl) (fun _ _ _ h => h) (.inl ⟨by kernel_rfl, fun w' hS => by go_simp⟩) hS ?_
                     refine wpAnyH_take (i := 9) (v := .agg #[.int .i64 c.on, .int .i64 c.off, .int .i64 c.col]) rfl (by kernel_rfl) (by kernel_rfl) (by kernel_rfl) (fun _ _ _ h => h) (.inl ⟨by kernel_rfl, fun w' hS => by go_simp⟩) hS ?_
                     refine wpAnyH_take (i := 10) (v := .int .i64 0) rfl (by kernel_rfl) (by kernel_rfl) (by kernel_rfl) (fun _ _ _ h => h) (.inl ⟨by kernel_rfl, fun w' hS => by go_simp⟩) hS ?_
                     have HX := Lib.hid hX
                     have HBw := Lib.hid hBw
                     have z0 := frozen_of_row wq12 B 0 _ _ hX
                     have z1 := frozen_of_row wq12 B 1 _ _ hX
                     have z2 := frozen_of_row wq12 B 2 _ _ hX
                     have y0 : World.cell? wq12 ⟨B, 0, none⟩ = some (.int .i64 0) := by rw [cell_of_row _ _ _ _ _ _ hX]; rfl
                     have y1 : World.cell? wq12 ⟨B, 1, none⟩ = some (.int .i64 0) := by rw [cell_of_row _ _ _ _ _ _ hX]; rfl
                     have y2 : World.cell? wq12 ⟨B, 2, none⟩ = some (.int .i64 0) := by rw [cell_of_row _ _ _ _ _ _ hX]; rfl
                     clear hX hBw
                     refine wpAnyH_one (i := 12) (by kernel_rfl) rfl (by kernel_rfl) (fun K hK => ?_)
                     go_simp
                     obtain ⟨wst, hwst, hr8, k0, k1, k2, hbW⟩ := set3 HX.out (.int .i64 c.on) (.int .i64 c.off) (.int .i64 c.col)
                     rw [hwst]
                     replace hS : Below w10.heap.size w10 wst := hS.trans (hbW.mono HBw.out)
                     refine hK _ _ hS ?_
                     clear hK K z0 z1 z2 y0 y1 y2 k0 k1 k2 hbW hwst
                     refine wpAnyH_take (i := 13) (v := .int .i64 0) rfl (by kernel_rfl) (by kernel_rfl) (by kernel_rfl) (fun _ _ _ h => h) (.inl ⟨by kernel_rfl, fun w' hS => by go_simp⟩) hS ?_
                     refine wpAnyH_done (by kernel_rfl) ?_ _
                     go_wp2_with fail
                     go_meet
                     case rel => exact ⟨⟨B, rfl, hr8, HBw.out⟩, rfl, hS⟩
                  case rest =>
                   obtain ⟨⟨B3, rfl, hr8, hBw⟩, rfl, hS⟩ := hcut
                   obtain ⟨w11, hw11⟩ : ∃ w11 : World, w11 = wc := ⟨_, rfl⟩
                   subst hw11
                   have hx1 := (hS.block B1 (Array.getElem?_eq_some_iff.1 HX10.out).1).trans HX10.out
                   have HBW11 := Lib.hid (HBW10.out.trans (hS.mono HBW10.out.size))
                   have u0 : w11.cell? ⟨B1, 0, none⟩ = some (.int .i64 c.on) := by rw [cell_of_row _ _ _ _ _ _ hx1]; rfl
                   have u1 : w11.cell? ⟨B1, 1, none⟩ = some (.int .i64 c.off) := by rw [cell_of_row _ _ _ _ _ _ hx1]; rfl
                   have u2 : w11.cell? ⟨B1, 2, none⟩ = some (.int .i64 c.col) := by rw [cell_of_row _ _ _ _ _ _ hx1]; rfl
                   have v0 : w11.cell? ⟨B3, 0, none⟩ = some (.int .i64 c.on) := by rw [cell_of_row _ _ _ _ _ _ hr8]; rfl
                   have v1 : w11.cell? ⟨B3, 1, none⟩ = some (.int .i64 c.off) := by rw [cell_of_row _ _ _ _ _ _ hr8]; rfl
                   have v2 : w11.cell? ⟨B3, 2, none⟩ = some (.int .i64 c.col) := by rw [cell_of_row _ _ _ _ _ _ hr8]; rfl
                   clear hr8 hBw hS hx1
                   go_wp2_with fail
                   refine (same_law c _).mono ?_
                   rintro e w12 ⟨rfl, hb⟩
                   have HB12 := Lib.hid (HBW11.out.trans (hb.mono HBW11.out.size))
                   clear hb u0 u1 u2 v0 v1 v2
                   go_wp2_with fail
                   go_roundw
                   case rel => exact ⟨j + 1, by go_num, by omega, HB12.out⟩
                   case measure => simp [intOf]; omega
            · have hge : ¬ (j : Int) < N := by omega
              go_wp2_with fail
              go_ret
              exact ⟨rfl, HB7.out⟩

set_option maxRecDepth 100000 in
theorem contract (H : Type) (enc : TypeId × Value → H) (W : World) (base : Nat) (args : Array Value) (ds gs : List (DataW H)) (before : List MemPlace)
    (hval : ∀ (j : Nat) t v, Tryz.f7.params[j]? = some t → args[j]? = some v → Value.okWide Tryz.prog W .any base t v)
    (hW : DataW.Whole enc Tryz.prog Tryz.f7.params.toList Rows.styleOrderSpec.vars false W args.toList ds gs before) (hsz0 : (DataW.weightsEach Tryz.prog (Tryz.f7.params.toList ++ Rows.styleOrderSpec.plain.varTypes Tryz.prog) (ds ++ gs)).all (· ≤ reachBytes) = true) (hT : Tabs W) :
    Calls Tryz.prog 7 args W fun e W' => ∃ v, e = .returned v ∧ Rows.styleOrderSpec.post enc Tryz.prog Tryz.f7 false true false false W args v W' := by
  have hW' := hW
  obtain ⟨p, q, hA0, hV, rfl, hfz, hnd⟩ := hW
  have hA : DataW.TrodAll enc Tryz.prog W 0 (fun _ => true) true Tryz.f7.params.toList args.toList ds p := hA0
  rw [Tryz.params7] at hA hval
  have hsz := hsz0
  rw [Tryz.params7] at hsz
  clear hsz0
  obtain ⟨v0, vs0, d0, ds0, p0, q0, hargs, rfl, rfl, h0, r0⟩ := trodAll_cons hA
  obtain ⟨v1, vs1, d1, ds1, p1, q1, rfl, rfl, rfl, h1, r1⟩ := trodAll_cons r0
  obtain ⟨v2, vs2, d2, ds2, p2, q2, rfl, rfl, rfl, h2, r2⟩ := trodAll_cons r1
  obtain ⟨rfl, rfl, rfl⟩ := trodAll_nil r2
  obtain rfl : args = #[v0, v1, v2] := by cases args; simp_all
  obtain ⟨rfl, rfl⟩ := trodVars_none hV
  have hk0 := h0
  obtain ⟨l0, hR0, hD0⟩ := sheet_read h0 (okWide_slice Tryz.underlying22 (hval 0 22 v0 rfl rfl))
  have hk1 := h1
  obtain ⟨l1, hR1, hD1⟩ := ints_read h1 (okWide_slice Tryz.underlying64 (hval 1 64 v1 rfl rfl))
  obtain ⟨a2, rfl, rfl, rfl, w2⟩ := open_int Tryz.underlying3 (hval 2 3 v2 rfl rfl) h2
  clear hA0
  have size0 := sheet_reach hsz (j := 0) rfl rfl hD0
  have size1 := ints_reach hsz (j := 1) rfl rfl hD1
  refine (walk v0 l0 v1 l1 a2 W hR0 size0 hR1 size1 w2 hT).mono fun e W' ⟨he, hg⟩ => ?_
  subst he
  have hlt := hW'.lt
  exact ⟨_, rfl, post_of_below (pa := (p0 ++ (p1 ++ ([] ++ [])))) (pv := []) hW' (fun _ _ _ => trodAll_cons_mk (shut_bool Tryz.underlying4 _) trodAll_mk0) (fun sp hsp => (trodAll_cons_mk (Go.WideElems.Trod_stays (by kernel_rfl) (by kernel_rfl) (of_decide_eq_true (by kernel_rfl)) hk0 (fun p hp => hg.same (hlt p (by simp [hp]))) (fun p hp => hsp p (by simp [hp]))) (trodAll_cons_mk (Go.WideElems.Trod_stays (by kernel_rfl) (by kernel_rfl) (of_decide_eq_true (by kernel_rfl)) hk1 (fun p hp => hg.same (hlt p (by simp [hp]))) (fun p hp => hsp p (by simp [hp]))) (trodAll_cons_mk (shut_int Tryz.underlying3 w2) trodAll_mk0)))) (fun _ _ => rfl) rfl hg (ok_one (by kernel_rfl) rfl (okWide_bool_mk Tryz.underlying4 _))⟩

theorem witness_row (os : Os) {H : Type} (enc : TypeId × Value → H) :
    (OpenSpec.ofChange Rows.styleOrderSpec).preRow enc Tryz.prog Tryz.f7 Rows.styleOrderRow.domain false Rows.styleOrderRow.laid ((laidWorld os).forCall (fun _ _ => 0) ⟨#[], #[.slice none 0 0, .slice none 0 0, .int .i64 0], []⟩).memory #[.slice none 0 0, .slice none 0 0, .int .i64 0] := by
  have hw : (DataW.whole enc Tryz.prog ((laidWorld os).forCall (fun _ _ => 0) ⟨#[], #[.slice none 0 0, .slice none 0 0, .int .i64 0], []⟩).memory Tryz.f7.params.toList Rows.styleOrderSpec.vars false (#[.slice none 0 0, .slice none 0 0, .int .i64 0] : Array Value).toList 8).map (fun x => (x.1, x.2.1)) =
      some ([.nil, .nil, .lit (.int .i64 0)], []) := by kernel_rfl
  obtain ⟨⟨x1, x2, x3⟩, hx, hx1⟩ := Option.map_eq_some_iff.1 hw
  simp only [Prod.mk.injEq] at hx1
  obtain ⟨rfl, rfl⟩ := hx1
  exact OpenSpec.preRow_of_cond 8 hx (by kernel_rfl) (fun k hk => by cases hk) (by kernel_rfl) (laid_met os _)

set_option maxRecDepth 100000 in
theorem lifted (os : Os) (started : os.Started) (H : Type) (enc : TypeId × Value → H) (F : Stop.Interp) :
    ReturnsInHanded {} Tryz.checked os 7 .any ((OpenSpec.ofChange Rows.styleOrderSpec).preRow enc Tryz.prog Tryz.f7 Rows.styleOrderRow.domain false Rows.styleOrderRow.laid) (((OpenSpec.ofChange Rows.styleOrderSpec).at F).post enc Tryz.prog Tryz.f7 false true false false) := by
  refine returnsInHanded_of_row (C := Tryz.checked) (s := (OpenSpec.ofChange Rows.styleOrderSpec)) own started (by kernel_rfl) Tryz.func7
    (witness_row_at (enc := enc) (C := Tryz.checked) false (laidWorld os) #[.slice none 0 0, .slice none 0 0, .int .i64 0] rfl (by kernel_rfl) (by kernel_rfl) (by kernel_rfl) (witness_row os enc)) ?_
  intro W base args ds gs before hval hW _ hcond hsz hL hS _
  exact contract H enc W base args ds gs before hval hW hsz (tabs_of hL hS)

set_option maxHeartbeats 16000000 in
theorem closed : joinedFacts Tryz.pinned.checked.prog 7 Tryz.f7 ((OpenSpec.ofChange Rows.styleOrderSpec)).bare Rows.styleOrderRow = true := by
  unfold joinedFacts
  repeat' (with_reducible refine Bool.and_eq_true_iff.2 ⟨?_, ?_⟩)
  all_goals (as_aux_lemma => kernel_rfl)
theorem named : Tryz.pinned.checked.prog.funcNamed Rows.styleOrderRow.func = some 7 := by kernel_rfl
theorem inst : (Tryz.f7).isInstance Tryz.pinned.checked.prog Rows.styleOrderRow.origin Rows.styleOrderRow.targs := of_decide_eq_true (by kernel_rfl)
theorem wrap : (Tryz.f7).isWrapper Tryz.pinned.checked.prog Rows.styleOrderRow.wrapper Rows.styleOrderRow.mainSum := by
  unfold Func.isWrapper
  first | (rw [if_pos (by decide +kernel)]; kernel_rfl) | (rw [if_neg (by decide +kernel)]; exact ⟨rfl, rfl⟩)
theorem row : Rows.StyleOrderSaid :=
  OpenClaim.holds_of_cond 7 Tryz.f7 rfl rfl rfl rfl rfl rfl rfl ⟨rfl, rfl, rfl, rfl, rfl⟩ rfl rfl rfl rfl rfl named Tryz.func7 closed inst wrap
    (fun os started H enc _ F => by rw [OpenClaim.pre_eq_preRow]; exact lifted os started H enc F)

theorem plain (f : FuncId) (fn : Func) (hf : Tryz.pinned.checked.prog.funcNamed Rows.styleOrderRow.func = some f) (hfn : Tryz.pinned.checked.prog.funcs[f]? = some fn) :
    true = Tryz.pinned.checked.prog.looks [] ∧ ∀ (j : Nat) t, fn.params[j]? = some t → Tryz.pinned.checked.prog.wantsStandIn t = false := by
  obtain rfl : f = 7 := Option.some.inj ((show Tryz.prog.funcNamed Rows.styleOrderRow.func = some 7 by kernel_rfl).symm.trans hf) |>.symm
  obtain rfl : fn = Tryz.f7 := (Option.some.inj (Tryz.func7.symm.trans hfn)).symm
  refine ⟨by kernel_rfl, fun j t ht => ?_⟩
  rw [Tryz.params7] at ht
  have hm : t ∈ [22, 64, 3] := by simpa using Array.mem_of_getElem? ht
  simp only [List.mem_cons, List.mem_nil_iff, or_false] at hm
  rcases hm with rfl | rfl | rfl
  · exact (show Tryz.prog.wantsStandIn 22 = false by kernel_rfl)
  · exact (show Tryz.prog.wantsStandIn 64 = false by kernel_rfl)
  · exact (show Tryz.prog.wantsStandIn 3 = false by kernel_rfl)

theorem proved : Rows.StyleOrderCardSaid :=
  Claim7.holds_tied_plain_at .later [] _ _ _ _ row (fun _ h => by cases h) (by kernel_rfl) (fun _ h => by cases h) styleOrder_row_tie rfl ⟨rfl, rfl⟩ (by kernel_rfl) rfl plain (by kernel_rfl)
end Go.Proofs.YtceanagnkcejgaaGreatDoor.styleOrder
