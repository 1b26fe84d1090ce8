/- What is proved: NamesOrder holds of every list of texts, with no bound: a table's order has each number once, each name behind the one ahead. -/
import Derived.Test.YtaikecdafcmdaaaDoorNcp
import Derived.Test.YtaikecdafcmdaaaDoorPost
import Derived.Test.YtaikecdafcmdaaaDoorCards
import Derived.Test.YtaikecdafcmdaaaDoorTie
import Derived.ProofKit
import Derived.OpenShut
import Derived.Deep.DeepHandedRow
import Derived.Lib.QuietBelow
namespace Go.Proofs.YtaikecdafcmdaaaDoor.namesOrder
open Go.ChangeShapes Go.WideShapes Go.ChangeAt Go.RowKit Go.Maps Go.Sort
open Go.ChangeMaps (open_string shut_string)
set_option linter.unusedVariables false

theorem infoB : (Tryd.prog.info? 4).map (fun i => (i.zero, i.size, i.bytes)) = some (some (.bool false), 1, 1) := by kernel_rfl
/-- Block S is a row of n bools: true just at the numbers of zs. -/
def SeenIs (W : World) (S n : Nat) (zs : List Nat) : Prop := ∃ cur : Array Value, W.heap[S]? = some (.cells cur 4 (0, 0)) ∧ cur.size = n ∧ ∀ j, j < n → cur[j]? = some (.bool (decide (j ∈ zs)))
theorem SeenIs.cell {W : World} {S n : Nat} {zs : List Nat} (h : SeenIs W S n zs) {j : Nat} (hj : j < n) : W.cell? ⟨S, j, none⟩ = some (.bool (decide (j ∈ zs))) := by
  obtain ⟨cur, h1, h2, h3⟩ := h
  rw [cell_of_row _ _ _ _ _ _ h1]
  exact h3 j hj
theorem SeenIs.free {W : World} {S n : Nat} {zs : List Nat} (h : SeenIs W S n zs) (j : Nat) : W.frozen? ⟨S, j, none⟩ = false := by
  obtain ⟨cur, h1, _⟩ := h
  exact frozen_of_row W S j _ _ h1
theorem SeenIs.lt {W : World} {S n : Nat} {zs : List Nat} (h : SeenIs W S n zs) : S < W.heap.size := by
  obtain ⟨cur, h1, _⟩ := h
  exact (Array.getElem?_eq_some_iff.1 h1).1
theorem SeenIs.below {W W' : World} {S n : Nat} {zs : List Nat} (h : SeenIs W S n zs) (hb : Below W.heap.size W W') : SeenIs W' S n zs := by
  have hlt := h.lt
  obtain ⟨cur, h1, h2⟩ := h
  exact ⟨cur, (hb.block S hlt).trans h1, h2⟩
theorem SeenIs.set {W : World} {S n : Nat} {zs : List Nat} (h : SeenIs W S n zs) {i : Nat} (hi : i < n) : SeenIs (W.setCell ⟨S, i, none⟩ (.bool true)) S n (zs ++ [i]) := by
  obtain ⟨cur, h1, h2, h3⟩ := h
  refine ⟨_, heap_setCell_same W S i _ _ _ h1, by simpa using h2, fun j hj => ?_⟩
  by_cases e : i = j
  · subst e
    rw [Array.getElem?_setIfInBounds_self_of_lt (by omega)]
    simp
  · rw [Array.getElem?_setIfInBounds_ne e, h3 j hj]
    have : ¬ j = i := fun h => e h.symm
    simp [this]
theorem SeenIs.start (W : World) (n : Nat) : SeenIs (W.alloc (.cells (madeCells #[.bool false] n) 4)) W.heap.size n [] := by
  refine ⟨madeCells #[.bool false] n, World.alloc_heap_new W _, by simp [size_madeCells], fun j hj => ?_⟩
  unfold madeCells
  simp [hj, Nat.mod_one]
/-- The names in order: each is behind the one ahead. -/
theorem srt_next {l : List ByteArray} (hG : GoodTo l l.length) {k : Nat} (hk : k + 1 < (srt l).length) : ∃ (h1 : (srt l)[k] < l.length) (h2 : (srt l)[k + 1] < l.length), compare l[(srt l)[k]] l[(srt l)[k + 1]] = -1 := by
  have hF := List.pairwise_iff_getElem.1 (srtF_le l) k (k + 1) (by rw [srt_len] at hk; rw [srtF_len]; omega) (by rw [srt_len] at hk; rw [srtF_len]; omega) (by omega)
  have hk1 : k < (srtF l).length := by rw [srt_len] at hk; rw [srtF_len]; omega
  have hk2 : k + 1 < (srtF l).length := by rw [srt_len] at hk; rw [srtF_len]; omega
  have e1 : (srt l)[k] = ((srtF l)[k]).val := by simp [srt]
  have e2 : (srt l)[k + 1] = ((srtF l)[k + 1]).val := by simp [srt]
  refine ⟨by rw [e1]; exact ((srtF l)[k]).2, by rw [e2]; exact ((srtF l)[k + 1]).2, ?_⟩
  have hne : (srtF l)[k].val ≠ (srtF l)[k + 1].val := by
    intro e
    have hnd : (srt l).Nodup := (srt_perm l).nodup_iff.2 List.nodup_range
    exact (List.pairwise_iff_getElem.1 hnd) k (k + 1) (by omega) hk (by omega) (by rw [e1, e2, e])
  simp only [e1, e2]
  refine compare_neg hF fun e => hne ?_
  exact hG.inj ((srtF l)[k]).2 ((srtF l)[k + 1]).2 ((srtF l)[k]).2 ((srtF l)[k + 1]).2 (by rw [show l[((srtF l)[k]).val] = l[((srtF l)[k + 1]).val] from e])
theorem srt_new {l : List ByteArray} {k : Nat} (hk : k < (srt l).length) : (srt l)[k] ∉ (srt l).take k := by
  have hnd : (srt l).Nodup := (srt_perm l).nodup_iff.2 List.nodup_range
  intro h
  obtain ⟨j, hj, e⟩ := List.mem_take_iff_getElem.1 h
  exact (List.pairwise_iff_getElem.1 hnd) j k (by omega) hk (by omega) e

set_option maxRecDepth 100000 in
set_option maxHeartbeats 8000000 in
theorem walk (v : Value) (l : List ByteArray) (W : World) (hR : RdT W v l) (hl : l.length * 16 ≤ 140737488351232) (hT : Tabs W) :
    Calls Tryd.prog 5 #[v] W fun e w' => e = .returned (.bool true) ∧ Below W.heap.size W w' := by
  obtain ⟨pa, cap, rfl, hc1, hc2⟩ := hR.form
  have HR := Lib.hid hR
  have HL := Lib.hid (show l.length * 16 ≤ 140737488355328 by omega)
  have HT := Lib.hid hT
  obtain ⟨i0, hi, hz0, hz1, hz2⟩ := info_parts infoB
  clear hR hT hc1 hc2
  go_enter Tryd.func5, Tryd.ntmps5
  go_wp2_with fail
  refine (awake_law _ HT.out).mono ?_
  rintro e w1 ⟨rfl, h1⟩
  have HB1 := Lib.hid h1
  have HR1 := Lib.hid (HR.out.below h1)
  have HT1 := Lib.hid (HT.out.below h1 (Nat.le_refl _))
  clear h1
  go_wp2_with (at_builtin; go_loud (refine wpList_copyT rfl _ rfl l _ rfl HR1.out HL.out ?_); intro vm w2 hown hb2; obtain ⟨pm, cm, rfl⟩ := lenOf hown; have HO := Lib.hid (RdT.own hown rfl); have HB2 := Lib.hid (HB1.out.trans (hb2.mono HB1.out.size)); have HR2 := Lib.hid (HR1.out.below hb2); have HT2 := Lib.hid (HT1.out.below hb2 (Nat.le_refl _)); clear hown hb2)
  refine (new_pro l _ _ HO.out HT2.out).mono ?_
  rintro e w3 ⟨hb3, h⟩
  have HB3 := Lib.hid (HB2.out.trans (hb3.mono HB2.out.size))
  have HR3 := Lib.hid (HR2.out.below hb3)
  have HT3 := Lib.hid (HT2.out.below hb3 (Nat.le_refl _))
  clear hb3
  rcases h with ⟨_, rfl⟩ | ⟨_, k, hk, _, hne, rfl⟩ | ⟨hlen, hG, b, nv, gv, mv, sv, hbb, hTb, rfl⟩
  · go_wp2_with fail
    go_ret
    exact ⟨rfl, HB3.out⟩
  · obtain ⟨er, her⟩ : ∃ er, errAt l k = er := ⟨_, rfl⟩
    rw [her] at hne ⊢
    have t1 : (er != 0) = true := by simpa using hne
    clear hne her
    go_wp2_with fail
    go_ret
    exact ⟨rfl, HB3.out⟩
  · have HP3 := Lib.hid (show TP w3 (.pointer (some ⟨b, 0, none⟩)) l from .inr ⟨b, nv, gv, mv, sv, rfl, hTb⟩)
    have HG := Lib.hid hG
    have HLN := Lib.hid hlen
    clear hlen hG hbb hTb
    go_wp2_with fail
    refine (sorted_pro l _ _ HP3.out HLN.out).mono ?_
    rintro e w4 ⟨vo, rfl, ho4, hb4⟩
    obtain ⟨po, co, rfl⟩ := lenOf ho4
    have HZ := Lib.hid (RdI.own ho4 rfl)
    have HB4 := Lib.hid (HB3.out.trans (hb4.mono HB3.out.size))
    have HR4 := Lib.hid (HR3.out.below hb4)
    have HT4 := Lib.hid (HT3.out.below hb4 (Nat.le_refl _))
    have hlenz := HLN.out
    have hmk : ∀ w : World, (Instr.makeSlice 46 (.int .i64 (l.length : Int)) (.int .i64 (l.length : Int))).run Tryd.prog w = .ok (.slice (some ⟨w.heap.size, 0, none⟩) l.length l.length) (w.alloc (.cells (madeCells #[.bool false] l.length) 4)) := by
      intro w
      have h := run_make (P := Tryd.prog) w 46 4 i0 (.bool false) Tryd.underlying46 hi hz0 .i64 .i64 (l.length : Int) (l.length : Int) (by omega) (by omega) (by rw [hz2]; omega) (by omega)
      rw [hz1, Nat.mul_one, show (l.length : Int).toNat = l.length by omega] at h
      exact h
    clear ho4 hb4 hlenz
    go_wp2_with fail
    obtain ⟨w5, hw5⟩ : ∃ w5, w4.alloc (.cells (madeCells #[.bool false] l.length) 4) = w5 := ⟨_, rfl⟩
    have HS5 := Lib.hid (show SeenIs w5 w4.heap.size l.length [] by rw [← hw5]; exact SeenIs.start w4 l.length)
    have HB5 := Lib.hid (show Below w4.heap.size w4 w5 by rw [← hw5]; exact (Below.refl _ w4).alloc (Nat.le_refl _) _)
    rw [hw5]
    clear hw5 hmk
    have HZL := Lib.hid (srt_len l)
    obtain ⟨zs, hzs⟩ : ∃ zs, srt l = zs := ⟨_, rfl⟩
    have HZS := Lib.hid hzs
    have hm1 := HZL.out
    rw [hzs] at HZ HZL hm1 ⊢
    rw [hm1]
    clear hzs hm1
    go_loopw [30] (fun i wr => ∃ k : Nat, i = .int .i64 k ∧ k ≤ l.length ∧ SeenIs wr w4.heap.size l.length (zs.take k) ∧ Below w4.heap.size w4 wr) (fun i _ => l.length - (intOf i).toNat)
    case atStart => exact ⟨0, rfl, Nat.zero_le _, HS5.out, HB5.out⟩
    case round =>
      obtain ⟨k, rfl, hk, hS, hB⟩ := hrel
      have HS := Lib.hid hS
      have HB := Lib.hid hB
      have HK := Lib.hid hk
      by_cases hlt : k < l.length
      · have hkz : k < zs.length := by rw [HZL.out]; exact hlt
        have hmem : zs[k] ∈ srt l := by rw [HZS.out]; exact List.getElem_mem hkz
        have hil := srt_lt hmem
        have hnew : zs[k] ∉ zs.take k := by
          have := srt_new (l := l) (k := k) (by rw [HZS.out]; exact hkz)
          simpa only [HZS.out] using this
        have hprev : 0 < k → ∃ (h1 : zs[k - 1] < l.length), compare l[zs[k - 1]] l[zs[k]] = -1 := by
          intro h0
          obtain ⟨m, rfl⟩ : ∃ m, k = m + 1 := ⟨k - 1, by omega⟩
          obtain ⟨h1, _, h2⟩ := srt_next HG.out (k := m) (by rw [HZS.out]; exact hkz)
          simp only [HZS.out] at h1 h2
          exact ⟨by simpa using h1, by simpa using h2⟩
        have htk : zs.take (k + 1) = zs.take k ++ [zs[k]] := List.take_succ_eq_append_getElem hkz
        obtain ⟨i, hi2⟩ : ∃ i, zs[k] = i := ⟨_, rfl⟩
        have hcz := (HZ.out.below hB).cell hkz
        have hcp : 0 < k → ∃ b off p, po = some ⟨b, off, none⟩ ∧ zs[k - 1]'(by omega) = p ∧ wr.cell? ⟨b, off + (k - 1), none⟩ = some (.int .i64 (p : Nat)) := fun h0 => by
          obtain ⟨b, off, e, hc⟩ := (HZ.out.below hB).cell (j := k - 1) (by omega)
          exact ⟨b, off, _, e, rfl, hc⟩
        obtain ⟨ob, oo, rfl, hcz⟩ := hcz
        rw [hi2] at hil hnew htk hcz
        have hls := HR4.out.below hB
        obtain ⟨lb, lo, rfl, hci⟩ := hls.cell hil
        have hcs := hS.cell hil
        have hsf := hS.free i
        rw [show decide (i ∈ zs.take k) = false by simpa using hnew] at hcs
        have HTK := Lib.hid htk
        have hsi : l[i].size ≤ 64 := HG.out.size hil hil
        obtain ⟨x, hx⟩ : ∃ x, l[i] = x := ⟨_, rfl⟩
        have hi0 : (0 : Int) ≤ i := by omega
        have hi1 : (i : Int) < l.length := by omega
        have e0 : decide ((i : Int) < 0) = false := decide_eq_false (by omega)
        have e1 : decide (l.length ≤ i) = false := decide_eq_false (by omega)
        have kr0 := cell_regrown hcz
        have kr1 := cell_regrown hci
        have kr2 := cell_regrown hcs
        have HIL := Lib.hid hil
        have mixed : Tryd.prog.follows .mixedOrders = true := by kernel_rfl
        by_cases h0 : 0 < k
        · obtain ⟨q1, q2⟩ := hprev h0
          obtain ⟨_, _, p, e, hp, hcp2⟩ := hcp h0
          cases e
          simp only [hp, hi2] at q1 q2
          obtain ⟨_, _, e, hcq⟩ := hls.cell q1
          cases e
          have hsp : l[p].size ≤ 64 := HG.out.size q1 q1
          obtain ⟨y, hy⟩ : ∃ y, l[p] = y := ⟨_, rfl⟩
          rw [hx] at q2 hsi kr1
          rw [hy] at q2 hsp hcq
          have kr3 := cell_regrown hcp2
          have kr4 := cell_regrown hcq
          have cQ : ∀ d os, Calls Tryd.prog 18 #[.string y, .string x] (grow (redrawn wr d) os) fun e w'' => e = .returned (.int .i64 (-1)) ∧ ∃ p : Regrown, w'' = grow (redrawn wr p.d) p.os :=
            fun d os => Calls.regrown_of (v := .int .i64 (-1)) (by have := compare_ref y x (grow (redrawn wr d) os) (by omega) (by omega); rw [q2] at this; exact this)
          have hk0 : (0 : Int) < k := by omega
          have v1 : IntKind.i64.wrap ((k : Int) - 1) = ((k - 1 : Nat) : Int) := by rw [IntWalk.i64_in _ (by omega)]; omega
          have hp0 : (0 : Int) ≤ p := by omega
          have hk2 : (k - 1 : Nat) < l.length := by omega
          have hp1 : (p : Int) < l.length := by omega
          clear hprev hcp hS hB hls hnew htk hci hcs hcp2 hcq hy hx hp hi2 q2 hsp hsi hmem
          go_wp2_with fail
          refine wp_region_quiet_below (by assumption) (by kernel_rfl) ?_
          repeat (quiet_step (first | exact cQ _ _))
          refine wpQuiet_nil ?_
          intro _ hw'
          obtain ⟨⟨dq, osq⟩, hw''⟩ := hw'
          subst hw''
          obtain ⟨w6, hw6⟩ : ∃ w6, grow (redrawn wr dq) osq = w6 := ⟨_, rfl⟩
          have hb6 : Below wr.heap.size wr w6 := by rw [← hw6]; exact below_regrown wr dq osq
          have HS6 := Lib.hid (HS.out.below hb6)
          have HB6 := Lib.hid (HB.out.trans (hb6.mono HB.out.size))
          have cs6 := HS6.out.cell HIL.out
          have cf6 := HS6.out.free i
          rw [hw6]
          clear hw6 hb6 kr0 kr1 kr2 kr3 kr4 cQ
          go_wp2_with fail
          go_roundw
          case measure => simp [intOf]; omega
          case rel =>
            refine ⟨k + 1, by go_num, by omega, ?_, HB6.out.setCell (p := ⟨w4.heap.size, i, none⟩) (Nat.le_refl _) _⟩
            rw [HTK.out]
            exact HS6.out.set HIL.out
        · have hd1 : decide ((0 : Int) < k) = false := decide_eq_false (by omega)
          have hd2 : decide (0 < k) = false := decide_eq_false h0
          rw [hx] at hsi kr1
          clear h0
          clear hprev hcp hS hB hls hnew htk hci hcs hx hi2 hsi hmem
          go_wp2_with fail
          refine wp_region_quiet_below (by assumption) (by kernel_rfl) ?_
          iterate 18 (quiet_step (fail))
          iterate 14 (with_reducible refine wpQuiet_step ?_; with_reducible intro K hK; go_simp; with_reducible refine hK _ ?_; clear hK K)
          repeat (quiet_step (fail))
          refine wpQuiet_nil ?_
          intro _ hw'
          obtain ⟨⟨dq, osq⟩, hw''⟩ := hw'
          subst hw''
          obtain ⟨w6, hw6⟩ : ∃ w6, grow (redrawn wr dq) osq = w6 := ⟨_, rfl⟩
          have hb6 : Below wr.heap.size wr w6 := by rw [← hw6]; exact below_regrown wr dq osq
          have HS6 := Lib.hid (HS.out.below hb6)
          have HB6 := Lib.hid (HB.out.trans (hb6.mono HB.out.size))
          have cs6 := HS6.out.cell HIL.out
          have cf6 := HS6.out.free i
          rw [hw6]
          clear hw6 hb6 kr0 kr1 kr2
          go_wp2_with fail
          go_roundw
          case measure => simp [intOf]; omega
          case rel =>
            refine ⟨k + 1, by go_num, by omega, ?_, HB6.out.setCell (p := ⟨w4.heap.size, i, none⟩) (Nat.le_refl _) _⟩
            rw [HTK.out]
            exact HS6.out.set HIL.out
      · obtain rfl : k = l.length := by omega
        have hlz : ¬ ((l.length : Int) < l.length) := by omega
        have HBq := Lib.hid (HB4.out.trans (hB.mono HB4.out.size))
        clear hS hB hlt
        go_wp2_with fail
        go_ret
        exact ⟨rfl, HBq.out⟩

set_option maxRecDepth 100000 in
theorem contract (H : Type) (enc : TypeId × Value → H) (W : World) (base : Nat) (args : Array Value) (ds gs : List (DataW H)) (before : List MemPlace)
    (hval : ∀ (j : Nat) t v, Tryd.f5.params[j]? = some t → args[j]? = some v → Value.okWide Tryd.prog W .any base t v)
    (hW : DataW.Whole enc Tryd.prog Tryd.f5.params.toList Rows.namesOrderSpec.vars false W args.toList ds gs before) (hsz0 : (DataW.weightsEach Tryd.prog (Tryd.f5.params.toList ++ Rows.namesOrderSpec.plain.varTypes Tryd.prog) (ds ++ gs)).all (· ≤ reachBytes) = true) (hT : Tabs W) :
    Calls Tryd.prog 5 args W fun e W' => ∃ v, e = .returned v ∧ Rows.namesOrderSpec.post enc Tryd.prog Tryd.f5 false true false false W args v W' := by
  have hW' := hW
  obtain ⟨p, q, hA0, hV, rfl, hfz, hnd⟩ := hW
  have hA : DataW.TrodAll enc Tryd.prog W 0 (fun _ => true) true Tryd.f5.params.toList args.toList ds p := hA0
  rw [Tryd.params5] at hA hval
  have hsz := hsz0
  rw [Tryd.params5] at hsz
  clear hsz0
  obtain ⟨v0, vs0, d0, ds0, p0, q0, hargs, rfl, rfl, h0, r0⟩ := trodAll_cons hA
  obtain ⟨rfl, rfl, rfl⟩ := trodAll_nil r0
  obtain rfl : args = #[v0] := by cases args; simp_all
  obtain ⟨rfl, rfl⟩ := trodVars_none hV
  have hk0 := h0
  obtain ⟨l0, hR0, hD0⟩ := texts_read h0 (okWide_slice Tryd.underlying24 (hval 0 24 v0 rfl rfl))
  clear hA0
  have size0 := texts_reach hsz (j := 0) rfl rfl hD0
  refine (walk v0 l0 W hR0 size0 hT).mono fun e W' ⟨he, hg⟩ => ?_
  subst he
  have hlt := hW'.lt
  exact ⟨_, rfl, post_of_below (pa := (p0 ++ [])) (pv := []) hW' (fun _ _ _ => trodAll_cons_mk (shut_bool Tryd.underlying4 _) trodAll_mk0) (fun sp hsp => (trodAll_cons_mk (Go.WideElems.Trod_stays (by kernel_rfl) (by kernel_rfl) (of_decide_eq_true (by kernel_rfl)) hk0 (fun p hp => hg.same (hlt p (by simp [hp]))) (fun p hp => hsp p (by simp [hp]))) trodAll_mk0)) (fun _ _ => rfl) rfl hg (ok_one (by kernel_rfl) rfl (okWide_bool_mk Tryd.underlying4 _))⟩

theorem witness_row (os : Os) {H : Type} (enc : TypeId × Value → H) :
    (OpenSpec.ofChange Rows.namesOrderSpec).preRow enc Tryd.prog Tryd.f5 Rows.namesOrderRow.domain false Rows.namesOrderRow.laid ((laidWorld os).forCall (fun _ _ => 0) ⟨#[], #[.slice none 0 0], []⟩).memory #[.slice none 0 0] := by
  have hw : (DataW.whole enc Tryd.prog ((laidWorld os).forCall (fun _ _ => 0) ⟨#[], #[.slice none 0 0], []⟩).memory Tryd.f5.params.toList Rows.namesOrderSpec.vars false (#[.slice none 0 0] : Array Value).toList 8).map (fun x => (x.1, x.2.1)) =
      some ([.nil], []) := by kernel_rfl
  obtain ⟨⟨x1, x2, x3⟩, hx, hx1⟩ := Option.map_eq_some_iff.1 hw
  simp only [Prod.mk.injEq] at hx1
  obtain ⟨rfl, rfl⟩ := hx1
  exact OpenSpec.preRow_of_cond 8 hx (by kernel_rfl) (fun k hk => by cases hk) (by kernel_rfl) (laid_met os _)

set_option maxRecDepth 100000 in
theorem lifted (os : Os) (started : os.Started) (H : Type) (enc : TypeId × Value → H) (F : Stop.Interp) :
    ReturnsInHanded {} Tryd.checked os 5 .any ((OpenSpec.ofChange Rows.namesOrderSpec).preRow enc Tryd.prog Tryd.f5 Rows.namesOrderRow.domain false Rows.namesOrderRow.laid) (((OpenSpec.ofChange Rows.namesOrderSpec).at F).post enc Tryd.prog Tryd.f5 false true false false) := by
  refine returnsInHanded_of_row (C := Tryd.checked) (s := (OpenSpec.ofChange Rows.namesOrderSpec)) own started (by kernel_rfl) Tryd.func5
    (witness_row_at (enc := enc) (C := Tryd.checked) false (laidWorld os) #[.slice none 0 0] rfl (by kernel_rfl) (by kernel_rfl) (by kernel_rfl) (witness_row os enc)) ?_
  intro W base args ds gs before hval hW _ hcond hsz hL hS _
  exact contract H enc W base args ds gs before hval hW hsz (tabs_of hL hS)

set_option maxHeartbeats 16000000 in
theorem closed : joinedFacts Tryd.pinned.checked.prog 5 Tryd.f5 ((OpenSpec.ofChange Rows.namesOrderSpec)).bare Rows.namesOrderRow = true := by
  unfold joinedFacts
  repeat' (with_reducible refine Bool.and_eq_true_iff.2 ⟨?_, ?_⟩)
  all_goals (as_aux_lemma => kernel_rfl)
theorem named : Tryd.pinned.checked.prog.funcNamed Rows.namesOrderRow.func = some 5 := by kernel_rfl
theorem inst : (Tryd.f5).isInstance Tryd.pinned.checked.prog Rows.namesOrderRow.origin Rows.namesOrderRow.targs := of_decide_eq_true (by kernel_rfl)
theorem wrap : (Tryd.f5).isWrapper Tryd.pinned.checked.prog Rows.namesOrderRow.wrapper Rows.namesOrderRow.mainSum := by
  unfold Func.isWrapper
  first | (rw [if_pos (by decide +kernel)]; kernel_rfl) | (rw [if_neg (by decide +kernel)]; exact ⟨rfl, rfl⟩)
theorem row : Rows.NamesOrderSaid :=
  OpenClaim.holds_of_cond 5 Tryd.f5 rfl rfl rfl rfl rfl rfl rfl ⟨rfl, rfl, rfl, rfl, rfl⟩ rfl rfl rfl rfl rfl named Tryd.func5 closed inst wrap
    (fun os started H enc _ F => by rw [OpenClaim.pre_eq_preRow]; exact lifted os started H enc F)

theorem plain (f : FuncId) (fn : Func) (hf : Tryd.pinned.checked.prog.funcNamed Rows.namesOrderRow.func = some f) (hfn : Tryd.pinned.checked.prog.funcs[f]? = some fn) :
    false = Tryd.pinned.checked.prog.looks [] ∧ ∀ (j : Nat) t, fn.params[j]? = some t → Tryd.pinned.checked.prog.wantsStandIn t = false := by
  obtain rfl : f = 5 := Option.some.inj ((show Tryd.prog.funcNamed Rows.namesOrderRow.func = some 5 by kernel_rfl).symm.trans hf) |>.symm
  obtain rfl : fn = Tryd.f5 := (Option.some.inj (Tryd.func5.symm.trans hfn)).symm
  refine ⟨by kernel_rfl, fun j t ht => ?_⟩
  rw [Tryd.params5] at ht
  have hm : t ∈ [24] := by simpa using Array.mem_of_getElem? ht
  simp only [List.mem_cons, List.mem_nil_iff, or_false] at hm
  subst hm
  exact (show Tryd.prog.wantsStandIn 24 = false by kernel_rfl)

theorem proved : Rows.NamesOrderCardSaid :=
  Claim7.holds_tied_plain_at .later [] _ _ _ _ row (fun _ h => by cases h) (by kernel_rfl) (fun _ h => by cases h) namesOrder_row_tie rfl ⟨rfl, rfl⟩ (by kernel_rfl) rfl plain (by kernel_rfl)
end Go.Proofs.YtaikecdafcmdaaaDoor.namesOrder
