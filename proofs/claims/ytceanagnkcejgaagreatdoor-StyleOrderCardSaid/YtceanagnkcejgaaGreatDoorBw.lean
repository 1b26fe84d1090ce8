/- The library's iterator over a list backwards; the program's whole. -/
import Derived.Test.YtceanagnkcejgaaGreatDoorCp
import Derived.Test.YtceanagnkcejgaaGreatDoorRound
import Derived.RangeFuncNested
import Derived.RangeFuncBound
import Derived.RangeFuncCalls
import Derived.RangeFuncLeaves
import Derived.RangeFuncBox
import Derived.Shelf.Abstract
import Derived.Shelf.RegionOpen
import Derived.OwnWalkIn
import Derived.TacticsInMore
import Derived.LoopNIn
import Derived.LoopIn
namespace Go.Proofs.YtceanagnkcejgaaGreatDoor
open Go.RowKit Go.Shelf
set_option linter.unusedVariables false

attribute [local go_sem] Oper.semAt_some

abbrev Ix2 (L : Nat) := { x : Nat × Nat // x.2 < L }
/-- What a round keeps: what lay below a block, and the variable that holds the list. -/
def KpB (B Bs : Nat) (W W' : World) : Prop := Below B W W' ∧ ∀ v, W.cell? ⟨Bs, 0, none⟩ = some v → W'.cell? ⟨Bs, 0, none⟩ = some v
theorem KpB.t {B Bs : Nat} {X Y Z : World} (h : KpB B Bs X Y) (k : KpB B Bs Y Z) : KpB B Bs X Z := ⟨h.1.trans k.1, fun v e => k.2 v (h.2 v e)⟩
theorem KpB.put {B Bs : Nat} (W : World) (l : Nat) (o o' : Obj) (hl : B ≤ l) (h : W.heap[l]? = some o) (hc : o.isCells = false) (hw : o.isWalk = false) : KpB B Bs W (W.putObj l o') := by
  refine ⟨(Below.refl B W).grown (grownBy_putObj' W l o') (by have := (Array.getElem?_eq_some_iff.1 h).1; omega) (fun k e => by cases e; omega), fun v e => ?_⟩
  have hne : Bs ≠ l := by
    rintro rfl
    unfold World.cell? at e
    rw [h] at e
    cases o <;> simp_all [Obj.isCells]
  unfold World.cell? at e ⊢
  simp only [] at e ⊢
  rw [World.putObj_heap_other hne]
  exact e

/-- The function value over one new block that holds the list. -/
theorem backward_in (n : Nat) (v : Value) (w : World) (hv : ∃ p k c, v = .slice p k c) :
    CallsIn Fence.wide n Tryz.prog 55 #[v] w fun e w' => e = .returned (.func (.func 66) #[] #[.pointer (some ⟨w.heap.size, 0, none⟩)]) ∧ w' = w.alloc (.cells #[v] 64) := by
  obtain ⟨p, k, c, rfl⟩ := hv
  refine callsIn_of_wp Tryz.func55 rfl trivial ?_ rfl
  simp only [Tryz.ntmps55, List.size_toArray, List.length_cons, List.length_nil, Nat.reduceAdd, Nat.reduceSub, Array.replicate_succ, Array.replicate_zero, List.push_toArray, List.append_toArray, List.nil_append, List.cons_append]
  gi_wp2
  go_ret
  exact ⟨rfl, rfl⟩

set_option maxRecDepth 100000 in
set_option maxHeartbeats 2000000 in
theorem backward1_in (n l Bs B g cap L : Nat) (p : List Nat) (hn : 1 ≤ n) (hp : p.length ≤ 1000) (hL : ∀ k ∈ p, k < L) (hg : g < B) (J Jx : List (Ix2 L) → World → Prop)
    (hY : ∀ pre x W, J pre W → pre.length < p.length → YieldAt Fence.wide (n - 1) Tryz.prog l #[.int .i64 (x.1.1 : Int), .int .i64 (x.1.2 : Int)] W fun e W' =>
      (e = .returned (.bool true) ∧ J (pre ++ [x]) W' ∧ KpB B Bs W W') ∨ (e = .returned (.bool false) ∧ Jx (pre ++ [x]) W'))
    (W : World) (hBs : W.cell? ⟨Bs, 0, none⟩ = some (.slice (some ⟨g, 0, none⟩) p.length cap)) (hc : ∀ j (hj : j < p.length), W.cell? ⟨g, j, none⟩ = some (.int .i64 (p[j] : Nat))) (h0 : J [] W) :
    CallsIn Fence.wide n Tryz.prog 66 #[.func (.yield l) #[] #[], .pointer (some ⟨Bs, 0, none⟩)] W fun e W' => (∃ v, e = .returned v) ∧
      ((∃ ys, ys.map (fun x : Ix2 L => x.1.2) = p.reverse ∧ J ys W') ∨ (∃ pre, pre.map (fun x : Ix2 L => x.1.2) <+: p.reverse ∧ Jx pre W')) := by
  refine callsIn_of_wp Tryz.func66 rfl trivial ?_ rfl
  simp only [Tryz.ntmps66, List.size_toArray, List.length_cons, List.length_nil, Nat.reduceAdd, Nat.reduceSub, Array.replicate_succ, Array.replicate_zero, List.push_toArray, List.append_toArray, List.nil_append, List.cons_append]
  gi_wp2
  gi_loopw [3] (fun i wr => ∃ (k : Nat) (pre : List (Ix2 L)), k ≤ p.length ∧ i = .int .i64 ((k : Int) - 1) ∧ pre.length + k = p.length ∧ Hid (pre.map (fun x : Ix2 L => x.1.2) = (p.drop k).reverse) ∧ J pre wr ∧ KpB B Bs W wr)
    (fun i _ => (intOf i + 1).toNat)
  case atStart => exact ⟨p.length, [], Nat.le_refl _, rfl, by simp, by show _ = _; simp, h0, Below.refl _ _, fun _ h => h⟩
  case round =>
    obtain ⟨k, pre, hk, rfl, hlen, HP, hJs, hnx⟩ := hrel
    have hsl := hnx.2 _ hBs
    cases k with
    | zero =>
      gi_wp2
      go_end0
      refine ⟨⟨_, rfl⟩, .inl ⟨pre, ?_, hJs⟩⟩
      have := HP.out
      simpa using this
    | succ k =>
      have hk' : k < p.length := by omega
      have hkL : p[k] < L := hL _ (List.getElem_mem hk')
      have hcx := (hnx.1.cell (p := ⟨g, k, none⟩) hg).trans (hc k hk')
      have hdr : (p.drop (k + 1)).reverse ++ [p[k]] = (p.drop k).reverse := by
        rw [List.drop_eq_getElem_cons hk', List.reverse_cons]
      obtain ⟨z, hz⟩ : ∃ z, p[k] = z := ⟨_, rfl⟩
      rw [hz] at hdr hcx hkL
      clear hz
      obtain ⟨fn, tmps, assign, body, hy, hR⟩ := hY pre ⟨(k, z), hkL⟩ wr hJs (by omega)
      have HN := Lib.hid (show (pre ++ [(⟨(k, z), hkL⟩ : Ix2 L)]).map (fun x : Ix2 L => x.1.2) = (p.drop k).reverse by
        rw [List.map_append, HP.out]
        exact hdr)
      have HNX := Lib.hid hnx
      have HKL := Lib.hid hkL
      clear hdr
      dsimp only at hy
      have e1 : ((k + 1 : Nat) : Int) - 1 = k := by omega
      rw [e1]
      clear hnx
      gi_wp2
      refine hR.mono ?_
      rintro e W3 (⟨rfl, hJ3, hk3⟩ | ⟨rfl, hJx3⟩)
      · have hk4 := KpB.t HNX.out hk3
        have HK4 := Lib.hid hk4
        clear hk3 hk4
        gi_wp2
        go_roundw
        case rel => exact ⟨k, pre ++ [⟨(k, z), HKL.out⟩], by omega, rfl, by simp; omega, HN, hJ3, HK4.out⟩
        case measure => first | (simp [intOf]; done) | (simp [intOf]; omega)
      · gi_wp2
        refine bodyPost_ret (results_none rfl _ _ _) rfl ?_
        refine ⟨⟨_, rfl⟩, .inr ⟨pre ++ [⟨(k, z), HKL.out⟩], ?_, hJx3⟩⟩
        rw [HN.out]
        exact ⟨(p.take k).reverse, by rw [← List.reverse_append, List.take_append_drop]⟩

theorem backward_stops (n : Nat) (hn : 1 ≤ n) (Bs B g cap L : Nat) (p : List Nat) (hp : p.length ≤ 1000) (hL : ∀ k ∈ p, k < L) (hg : g < B) (w : World) (hB : B ≤ w.heap.size)
    (hBs : w.cell? ⟨Bs, 0, none⟩ = some (.slice (some ⟨g, 0, none⟩) p.length cap)) (hc : ∀ j (hj : j < p.length), w.cell? ⟨g, j, none⟩ = some (.int .i64 (p[j] : Nat))) :
    SeqStopsK Fence.wide n Tryz.prog 66 #[.pointer (some ⟨Bs, 0, none⟩)] (fun x : Ix2 L => #[.int .i64 (x.1.1 : Int), .int .i64 (x.1.2 : Int)]) (KpB B Bs) (fun ys => ys.map (fun x : Ix2 L => x.1.2) = p.reverse) (fun pre => pre.map (fun x : Ix2 L => x.1.2) <+: p.reverse) p.length w := fun l J Jx W hW hJ _ hY h0 =>
  backward1_in n l Bs B g cap L p hn hp hL hg J Jx hY W ((hW.cell (p := ⟨Bs, 0, none⟩) (cell_in hBs)).trans hBs) (fun j hj => (hW.cell (p := ⟨g, j, none⟩) (cell_in (hc j hj))).trans (hc j hj)) h0
end Go.Proofs.YtceanagnkcejgaaGreatDoor
