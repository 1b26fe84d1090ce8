/- The program's Each of layer 7: its iterator. -/
import Derived.Test.YtoeknophfcfahaaGreatDoorNap
import Derived.Test.YtoeknophfcfahaaGreatDoorRound
import Derived.RangeFuncNested
import Derived.RangeFuncBound
import Derived.RangeFuncCalls
import Derived.RangeFuncLeaves
import Derived.RangeFuncBox
import Derived.Shelf.Abstract
import Derived.Shelf.RegionOpen
import Derived.OwnWalkIn
import Derived.TacticsInMore
import Derived.LoopNIn
import Derived.LoopIn
namespace Go.Proofs.YtoeknophfcfahaaGreatDoor
open Go.RowKit Go.Maps Go.Shelf
set_option linter.unusedVariables false

attribute [local go_sem] Oper.semAt_some

/-- What a round keeps: what lay below a block, the box of the table, and every row from another block on but the one that a box's list owns, which is that of before or a new one. -/
def KpE (B Bl Bt D : Nat) (W W' : World) : Prop := Below B W W' ∧ (∀ v, W.cell? ⟨Bt, 0, none⟩ = some v → W'.cell? ⟨Bt, 0, none⟩ = some v) ∧
  ∀ v, W.cell? ⟨Bl, 0, none⟩ = some v → ∃ v', W'.cell? ⟨Bl, 0, none⟩ = some v' ∧ (v'.ownBlock = v.ownBlock ∨ ∀ c, v'.ownBlock = some c → W.heap.size ≤ c) ∧
    ∀ c cur T fr, D ≤ c → W.heap[c]? = some (.cells cur T fr) → v.ownBlock ≠ some c → W'.heap[c]? = some (.cells cur T fr)
theorem KpE.refl (B Bl Bt D : Nat) (W : World) : KpE B Bl Bt D W W := ⟨Below.refl _ _, fun _ h => h, fun v h => ⟨v, h, .inl rfl, fun _ _ _ _ _ h _ => h⟩⟩
theorem KpE.t {B Bl Bt D : Nat} {X Y Z : World} (h : KpE B Bl Bt D X Y) (k : KpE B Bl Bt D Y Z) : KpE B Bl Bt D X Z := by
  refine ⟨h.1.trans k.1, fun v e => k.2.1 v (h.2.1 v e), fun v e => ?_⟩
  obtain ⟨v1, e1, r1, b1⟩ := h.2.2 v e
  obtain ⟨v2, e2, r2, b2⟩ := k.2.2 v1 e1
  refine ⟨v2, e2, ?_, fun c cur T fr hD hc hne => b2 c cur T fr hD (b1 c cur T fr hD hc hne) ?_⟩
  · rcases r2 with r2 | r2
    · rw [r2]; exact r1
    · exact .inr fun c hc => Nat.le_trans h.1.size (r2 c hc)
  · rcases r1 with r1 | r1
    · rw [r1]; exact hne
    · intro e3
      have h4 := r1 c e3
      have h5 := (Array.getElem?_eq_some_iff.1 hc).1
      omega
theorem cellAt_put {W : World} {b l : Nat} {o o' : Obj} {v : Value} (h : W.heap[l]? = some o) (hc : o.isCells = false) (e : W.cell? ⟨b, 0, none⟩ = some v) : (W.putObj l o').cell? ⟨b, 0, none⟩ = some v := by
  have hne : b ≠ l := by
    rintro rfl
    unfold World.cell? at e
    rw [h] at e
    cases o <;> simp_all [Obj.isCells]
  unfold World.cell? at e ⊢
  simp only [] at e ⊢
  rw [World.putObj_heap_other hne]
  exact e
theorem KpE.put {B Bl Bt D : Nat} (W : World) (l : Nat) (o o' : Obj) (hl : B ≤ l) (h : W.heap[l]? = some o) (hc : o.isCells = false) (hw : o.isWalk = false) : KpE B Bl Bt D W (W.putObj l o') := by
  refine ⟨(Below.refl B W).grown (grownBy_putObj' W l o') (by have := (Array.getElem?_eq_some_iff.1 h).1; omega) (fun k e => by cases e; omega), fun v e => cellAt_put h hc e, fun v e => ⟨v, cellAt_put h hc e, .inl rfl, fun c cur T fr _ hcc _ => ?_⟩⟩
  have hne : c ≠ l := by
    rintro rfl
    rw [h] at hcc
    cases hcc
    simp [Obj.isCells] at hc
  rw [World.putObj_heap_other hne]
  exact hcc
theorem KpE.of_below {B Bl Bt D : Nat} {W W' : World} (h : Below W.heap.size W W') (hB : B ≤ W.heap.size) : KpE B Bl Bt D W W' :=
  ⟨h.mono hB, fun v e => (h.cell (p := ⟨Bt, 0, none⟩) (cellIn e)).trans e, fun v e => ⟨v, (h.cell (p := ⟨Bl, 0, none⟩) (cellIn e)).trans e, .inl rfl, fun c cur T fr _ hc _ => (h.block c (Array.getElem?_eq_some_iff.1 hc).1).trans hc⟩⟩

/-- The function value over one new box that holds the table. -/
theorem each_in (n : Nat) (p : Value) (w : World) (hp : ∃ a, p = .pointer a) :
    CallsIn Fence.wide n Tryz.prog 38 #[p] w fun e w' => e = .returned (.func (.func 80) #[] #[.pointer (some ⟨w.heap.size, 0, none⟩)]) ∧ w' = w.alloc (.cells #[p] 24) := by
  obtain ⟨a, rfl⟩ := hp
  refine callsIn_of_wp Tryz.func38 rfl trivial ?_ rfl
  simp only [Tryz.ntmps38, List.size_toArray, List.length_cons, List.length_nil, Nat.reduceAdd, Nat.reduceSub, Array.replicate_succ, Array.replicate_zero, List.push_toArray, List.append_toArray, List.nil_append, List.cons_append]
  gi_wp2
  go_ret
  exact ⟨rfl, rfl⟩

structure NmI (L : Nat) where
  val : Nat
  lt : val < L
def nmA (ns : List ByteArray) (x : NmI ns.length) : Array Value := #[.int .i64 (x.1 : Nat), .string (ns.getD x.1 ByteArray.empty)]
theorem TP.form {W : World} {p : Value} {l : List ByteArray} (h : TP W p l) : ∃ a, p = .pointer a := by
  rcases h with ⟨rfl, _⟩ | ⟨b, nv, gv, mv, sv, rfl, _⟩
  · exact ⟨_, rfl⟩
  · exact ⟨_, rfl⟩

set_option maxRecDepth 100000 in
set_option maxHeartbeats 2000000 in
theorem each1_in (n l Bt B Bl D : Nat) (p : Value) (ns : List ByteArray) (hn : 1 ≤ n) (hns : ns.length ≤ 1000) (w0 : World) (hp : TP w0 p ns) (h0B : w0.heap.size ≤ B) (J Jx : List (NmI ns.length) → World → Prop)
    (hY : ∀ pre x W, J pre W → pre.length < ns.length → YieldAt Fence.wide (n - 1) Tryz.prog l (nmA ns x) W fun e W' =>
      (e = .returned (.bool true) ∧ J (pre ++ [x]) W' ∧ KpE B Bl Bt D W W') ∨ (e = .returned (.bool false) ∧ Jx (pre ++ [x]) W'))
    (W : World) (hJ : AbidesFrom W.heap.size J) (hbw : Below B w0 W) (hBW : B ≤ W.heap.size) (hBt : W.cell? ⟨Bt, 0, none⟩ = some p) (vl : Value) (hBl : W.cell? ⟨Bl, 0, none⟩ = some vl) (hvl : ∀ c, vl.ownBlock = some c → c < W.heap.size) (hD : D ≤ W.heap.size) (h0 : J [] W) :
    CallsIn Fence.wide n Tryz.prog 80 #[.func (.yield l) #[] #[], .pointer (some ⟨Bt, 0, none⟩)] W fun e W' => (∃ v, e = .returned v) ∧
      ((∃ ys : List (NmI ns.length), ys.map (·.1) = srt ns ∧ J ys W') ∨ (∃ pre : List (NmI ns.length), pre.map (·.1) <+: srt ns ∧ Jx pre W')) := by
  have hf0 : Fence.wide.fn 11 := trivial
  have hpW : TP W p ns := hp.below (hbw.mono h0B)
  have HS := Lib.hid (sorted_pro ns p W hpW hns)
  have HPL := Lib.hid (srt_len ns)
  obtain ⟨pa, rfl⟩ := hp.form
  refine callsIn_of_wp Tryz.func80 rfl trivial ?_ rfl
  simp only [Tryz.ntmps80, List.size_toArray, List.length_cons, List.length_nil, Nat.reduceAdd, Nat.reduceSub, Array.replicate_succ, Array.replicate_zero, List.push_toArray, List.append_toArray, List.nil_append, List.cons_append]
  gi_wp2_with (gi_at_call 11; refine (callsIn_wide.2 HS.out).mono ?_; rintro e W1 ⟨v1, rfl, hown, hb1⟩; obtain ⟨pv, cv, rfl⟩ := lenOf hown; have HO := Lib.hid hown; have HB1 := Lib.hid hb1; clear hown hb1)
  have hg1 : W.grownBy W1 none := ⟨HB1.out.os, HB1.out.tape, HB1.out.output, HB1.out.size, fun k hk _ => HB1.out.block k hk⟩
  have h01 := hJ _ _ _ none h0 hg1 (fun r e => by cases e)
  have HK0 := Lib.hid (KpE.of_below (B := B) (Bl := Bl) (Bt := Bt) (D := D) HB1.out hBW)
  have hBt1 := (HB1.out.cell (p := ⟨Bt, 0, none⟩) (cellIn hBt)).trans hBt
  have hBl1 := (HB1.out.cell (p := ⟨Bl, 0, none⟩) (cellIn hBl)).trans hBl
  gi_loopw [8] (fun i wr => ∃ (k : Nat) (pre : List (NmI ns.length)), k ≤ (srt ns).length ∧ i = .int .i64 (k : Nat) ∧ pre.length = k ∧ Hid (pre.map (·.1) = (srt ns).take k) ∧ J pre wr ∧ KpE B Bl Bt D W1 wr)
    (fun i _ => (srt ns).length - (intOf i).toNat)
  case atStart => exact ⟨0, [], Nat.zero_le _, rfl, rfl, by show _ = _; simp, h01, KpE.refl _ _ _ _ _⟩
  case round =>
    obtain ⟨k, pre, hk, rfl, hlen, HP, hJs, hkp⟩ := hrel
    by_cases hlt : k < (srt ns).length
    · obtain ⟨i, hi⟩ : ∃ i, (srt ns)[k] = i := ⟨_, rfl⟩
      have hin : i < ns.length := srt_lt (hi ▸ List.getElem_mem hlt)
      have hbr : Below B w0 wr := (hbw.trans (HB1.out.mono hBW)).trans hkp.1
      obtain ⟨g, cp, e1, hgl⟩ : ∃ g cp, pv = some ⟨g, 0, none⟩ ∧ W.heap.size ≤ g ∧ ∃ cur fr, W1.heap[g]? = some (.cells cur 3 fr) := by
        rcases HO.out.2 with ⟨e, h0⟩ | ⟨g, cap, cur, e, hb, hg, _⟩
        · omega
        · cases e
          exact ⟨g, cv, rfl, hb, cur, _, hg⟩
      subst e1
      obtain ⟨hgW, cur, fr, hgc⟩ := hgl
      have hcg := (World.ownsRow.cellAt HO.out k (by omega)).trans (show (numsV (srt ns))[k]? = some (.int .i64 (i : Nat)) by simp [numsV, hlt, hi])
      obtain ⟨v2, hv2, _, hrows⟩ := hkp.2.2 vl hBl1
      have hgr := hrows g cur 3 fr (by omega) hgc (fun e => by have := hvl g e; omega)
      have hcr : wr.cell? ⟨g, k, none⟩ = some (.int .i64 (i : Nat)) := (World.cell?_of_block (a := ⟨g, k, none⟩) (hgr.trans hgc.symm)).trans hcg
      have hbt := hkp.2.1 _ hBt1
      rcases hp.below (hbr.mono h0B) with ⟨_, hnil⟩ | ⟨b, nv, gv, mv, sv, e, hT⟩
      · rw [hnil] at hin; simp at hin
      cases e
      obtain ⟨pa, cap, rfl, _, _⟩ := hT.nn.form
      obtain ⟨nb, no, rfl, hnc⟩ := hT.nn.cell hin
      have c0 := hT.c0
      obtain ⟨s, hs⟩ : ∃ s, ns[i] = s := ⟨_, rfl⟩
      rw [hs] at hnc
      obtain ⟨fn, tmps, assign, body, hy, hR⟩ := hY pre ⟨i, hin⟩ wr hJs (by have := HPL.out; omega)
      have hgd : ns.getD i ByteArray.empty = s := by rw [getD_get hin, hs]
      unfold nmA at hy
      simp only [hgd] at hy
      have HN := Lib.hid (show (pre ++ [(⟨i, hin⟩ : NmI ns.length)]).map (·.1) = (srt ns).take (k + 1) by
        rw [List.map_append, HP.out, List.take_succ_eq_append_getElem hlt, hi]; rfl)
      have HKP := Lib.hid hkp
      have HIN := Lib.hid hin
      have HLT := Lib.hid hlt
      have hix : (i : Int) < ns.length := by omega
      have hkx : (k : Int) < (srt ns).length := by omega
      have hk9 : (srt ns).length ≤ 1000 := by have := HPL.out; omega
      clear hkp hrows hgr hgc hT hgd hs hi hv2 hcg
      gi_wp2
      refine hR.mono ?_
      rintro e W3 (⟨rfl, hJ3, hk3⟩ | ⟨rfl, hJx3⟩)
      · have HK4 := Lib.hid (KpE.t HKP.out hk3)
        clear hk3
        gi_wp2
        go_roundw
        case rel => exact ⟨k + 1, pre ++ [⟨i, HIN.out⟩], by have := HLT.out; omega, by go_num, by simp; omega, HN, hJ3, HK4.out⟩
        case measure => have := HLT.out; first | (simp [intOf]; done) | (simp [intOf]; omega)
      · gi_wp2
        refine bodyPost_ret (results_none rfl _ _ _) rfl ?_
        refine ⟨⟨_, rfl⟩, .inr ⟨pre ++ [⟨i, HIN.out⟩], ?_, hJx3⟩⟩
        rw [HN.out]
        exact List.take_prefix _ _
    · have hkx : ¬ (k : Int) < (srt ns).length := by omega
      gi_wp2
      go_end0
      refine ⟨⟨_, rfl⟩, .inl ⟨pre, ?_, hJs⟩⟩
      have := HP.out
      rw [List.take_of_length_le (by omega)] at this
      exact this
end Go.Proofs.YtoeknophfcfahaaGreatDoor
