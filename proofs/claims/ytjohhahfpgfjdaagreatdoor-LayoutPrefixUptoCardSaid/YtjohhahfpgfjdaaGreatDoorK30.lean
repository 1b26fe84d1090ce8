/- The texts that the laws of layout stand on, part 30. -/
import Derived.Test.YtjohhahfpgfjdaaGreatDoorK10
import Derived.Test.YtjohhahfpgfjdaaGreatDoorK29
import Derived.RangeFuncNested
import Derived.RangeFuncBound
import Derived.RangeFuncCalls
import Derived.RangeFuncLeaves
import Derived.RangeFuncBox
import Derived.Shelf.Abstract
import Derived.Shelf.RegionOpen
import Derived.OwnWalkIn
import Derived.TacticsInMore
import Derived.LoopNIn
import Derived.LoopIn
import Derived.Maps.AppendAt
import Derived.StillTailTactics
import Derived.BigRegion
import Derived.BigQuiet
import Derived.Deep.QuietTactic
section
namespace Go.Proofs.YtjohhahfpgfjdaaGreatDoor.S6
section
open Go.RowKit
set_option linter.unusedVariables false
theorem over_pro (c d : Int) (w : World) : Calls Tryz.prog 115 #[.int .i64 c, .int .i64 d] w fun e w' => e = .returned (.int .i64 (overI c d)) ∧ w = w' := by
  by_cases h : d = -1
  · have t : (d == -1) = true := by simpa using h
    have e : overI c d = c := by unfold overI; rw [if_pos h]
    have HE := Lib.hid e
    clear h e
    go_enter Tryz.func115, Tryz.ntmps115
    go_wp2_with fail
    go_ret
    rw [HE.out]
    exact ⟨rfl, rfl⟩
  · have t : (d == -1) = false := by simpa using h
    have e : overI c d = d := by unfold overI; rw [if_neg h]
    have HE := Lib.hid e
    clear h e
    go_enter Tryz.func115, Tryz.ntmps115
    go_wp2_with fail
    go_ret
    rw [HE.out]
    exact ⟨rfl, rfl⟩
theorem over_same (c d : Int) (w : World) : Calls Tryz.prog 115 #[.int .i64 c, .int .i64 d] w fun e w' => e = .returned (.int .i64 (overI c d)) ∧ w' = w := (over_pro c d w).mono fun _ _ ⟨h1, h2⟩ => ⟨h1, h2.symm⟩
set_option maxRecDepth 100000 in
set_option maxHeartbeats 1000000 in
theorem then_pro (a b : Chg) (w : World) : Calls Tryz.prog 111 #[chgVal a, chgVal b] w (Says (chgVal (thenC a b)) w) := by
  unfold chgVal
  go_enter Tryz.func111, Tryz.ntmps111
  go_wp2_with fail
  refine wp_region_still_tail 22 (by kernel_rfl) (by kernel_rfl) ?_
  simp only [List.take_succ_cons, List.take_zero, List.drop_succ_cons, List.drop_zero]
  change wpStill Tryz.prog _ (World.drew _) _ _ _
  repeat still_step
  still_call (over_same _ _ _)
  repeat still_step
  refine wpStill_nil ?_
  change wpList _ _ _ _ _ (World.drew _)
  go_wp2_with fail
  exact bodyPost_ret (v := chgVal (thenC a b)) (by simp [results, Tryz.results111, go_sem, chgVal, thenC]) rfl ⟨rfl, ((((Below.refl _ w).alloc (Nat.le_refl _) _).alloc (by simp) _).alloc (by simp; omega) _).drew⟩
set_option maxRecDepth 100000 in
set_option maxHeartbeats 1000000 in
theorem apply_pro (l : Lk) (c : Chg) (w : World) : Calls Tryz.prog 90 #[lkVal l, chgVal c] w (Says (lkVal (applyL l c)) w) := by
  unfold chgVal lkVal
  go_enter Tryz.func90, Tryz.ntmps90
  go_wp2_with fail
  refine wp_region_still_tail 14 (by kernel_rfl) (by kernel_rfl) ?_
  simp only [List.take_succ_cons, List.take_zero, List.drop_succ_cons, List.drop_zero]
  change wpStill Tryz.prog _ (World.drew _) _ _ _
  repeat still_step
  still_call (over_same _ _ _)
  repeat still_step
  refine wpStill_nil ?_
  change wpList _ _ _ _ _ (World.drew _)
  go_wp2_with fail
  exact bodyPost_ret (v := lkVal (applyL l c)) (by simp [results, Tryz.results90, go_sem, lkVal, applyL]) rfl ⟨rfl, ((((Below.refl _ w).alloc (Nat.le_refl _) _).alloc (by simp) _).alloc (by simp; omega) _).drew⟩

end
section
set_option linter.unusedVariables false
open Go.RowKit Go.Shelf
set_option linter.unusedVariables false

attribute [local go_sem] Oper.semAt_some

abbrev Ix2 (L : Nat) := { x : Nat × Nat // x.2 < L }
/-- What a round keeps: what lay below a block, and the variable that holds the list. -/
def KpB (B Bs : Nat) (W W' : World) : Prop := Below B W W' ∧ ∀ v, W.cell? ⟨Bs, 0, none⟩ = some v → W'.cell? ⟨Bs, 0, none⟩ = some v
theorem KpB.t {B Bs : Nat} {X Y Z : World} (h : KpB B Bs X Y) (k : KpB B Bs Y Z) : KpB B Bs X Z := ⟨h.1.trans k.1, fun v e => k.2 v (h.2 v e)⟩
theorem KpB.put {B Bs : Nat} (W : World) (l : Nat) (o o' : Obj) (hl : B ≤ l) (h : W.heap[l]? = some o) (hc : o.isCells = false) (hw : o.isWalk = false) : KpB B Bs W (W.putObj l o') := by
  refine ⟨(Below.refl B W).grown (grownBy_putObj' W l o') (by have := (Array.getElem?_eq_some_iff.1 h).1; omega) (fun k e => by cases e; omega), fun v e => ?_⟩
  have hne : Bs ≠ l := by
    rintro rfl
    unfold World.cell? at e
    rw [h] at e
    cases o <;> simp_all [Obj.isCells]
  unfold World.cell? at e ⊢
  simp only [] at e ⊢
  rw [World.putObj_heap_other hne]
  exact e

/-- The function value over one new block that holds the list. -/
theorem backward_in (n : Nat) (v : Value) (w : World) (hv : ∃ p k c, v = .slice p k c) :
    CallsIn Fence.wide n Tryz.prog 110 #[v] w fun e w' => e = .returned (.func (.func 137) #[] #[.pointer (some ⟨w.heap.size, 0, none⟩)]) ∧ w' = w.alloc (.cells #[v] 49) := by
  obtain ⟨p, k, c, rfl⟩ := hv
  refine callsIn_of_wp Tryz.func110 rfl trivial ?_ rfl
  simp only [Tryz.ntmps110, List.size_toArray, List.length_cons, List.length_nil, Nat.reduceAdd, Nat.reduceSub, Array.replicate_succ, Array.replicate_zero, List.push_toArray, List.append_toArray, List.nil_append, List.cons_append]
  gi_wp2
  go_ret
  exact ⟨rfl, rfl⟩

set_option maxRecDepth 100000 in
set_option maxHeartbeats 2000000 in
theorem backward1_in (n l Bs B g cap L : Nat) (p : List Nat) (hn : 1 ≤ n) (hp : p.length ≤ 1000) (hL : ∀ k ∈ p, k < L) (hg : g < B) (J Jx : List (Ix2 L) → World → Prop)
    (hY : ∀ pre x W, J pre W → pre.length < p.length → YieldAt Fence.wide (n - 1) Tryz.prog l #[.int .i64 (x.1.1 : Int), .int .i64 (x.1.2 : Int)] W fun e W' =>
      (e = .returned (.bool true) ∧ J (pre ++ [x]) W' ∧ KpB B Bs W W') ∨ (e = .returned (.bool false) ∧ Jx (pre ++ [x]) W'))
    (W : World) (hBs : W.cell? ⟨Bs, 0, none⟩ = some (.slice (some ⟨g, 0, none⟩) p.length cap)) (hc : ∀ j (hj : j < p.length), W.cell? ⟨g, j, none⟩ = some (.int .i64 (p[j] : Nat))) (h0 : J [] W) :
    CallsIn Fence.wide n Tryz.prog 137 #[.func (.yield l) #[] #[], .pointer (some ⟨Bs, 0, none⟩)] W fun e W' => (∃ v, e = .returned v) ∧
      ((∃ ys, ys.map (fun x : Ix2 L => x.1.2) = p.reverse ∧ J ys W') ∨ (∃ pre, pre.map (fun x : Ix2 L => x.1.2) <+: p.reverse ∧ Jx pre W')) := by
  refine callsIn_of_wp Tryz.func137 rfl trivial ?_ rfl
  simp only [Tryz.ntmps137, List.size_toArray, List.length_cons, List.length_nil, Nat.reduceAdd, Nat.reduceSub, Array.replicate_succ, Array.replicate_zero, List.push_toArray, List.append_toArray, List.nil_append, List.cons_append]
  gi_wp2
  gi_loopw [3] (fun i wr => ∃ (k : Nat) (pre : List (Ix2 L)), k ≤ p.length ∧ i = .int .i64 ((k : Int) - 1) ∧ pre.length + k = p.length ∧ Hid (pre.map (fun x : Ix2 L => x.1.2) = (p.drop k).reverse) ∧ J pre wr ∧ KpB B Bs W wr)
    (fun i _ => (intOf i + 1).toNat)
  case atStart => exact ⟨p.length, [], Nat.le_refl _, rfl, by simp, by show _ = _; simp, h0, Below.refl _ _, fun _ h => h⟩
  case round =>
    obtain ⟨k, pre, hk, rfl, hlen, HP, hJs, hnx⟩ := hrel
    have hsl := hnx.2 _ hBs
    cases k with
    | zero =>
      gi_wp2
      go_end0
      refine ⟨⟨_, rfl⟩, .inl ⟨pre, ?_, hJs⟩⟩
      have := HP.out
      simpa using this
    | succ k =>
      have hk' : k < p.length := by omega
      have hkL : p[k] < L := hL _ (List.getElem_mem hk')
      have hcx := (hnx.1.cell (p := ⟨g, k, none⟩) hg).trans (hc k hk')
      have hdr : (p.drop (k + 1)).reverse ++ [p[k]] = (p.drop k).reverse := by
        rw [List.drop_eq_getElem_cons hk', List.reverse_cons]
      obtain ⟨z, hz⟩ : ∃ z, p[k] = z := ⟨_, rfl⟩
      rw [hz] at hdr hcx hkL
      clear hz
      obtain ⟨fn, tmps, assign, body, hy, hR⟩ := hY pre ⟨(k, z), hkL⟩ wr hJs (by omega)
      have HN := Lib.hid (show (pre ++ [(⟨(k, z), hkL⟩ : Ix2 L)]).map (fun x : Ix2 L => x.1.2) = (p.drop k).reverse by
        rw [List.map_append, HP.out]
        exact hdr)
      have HNX := Lib.hid hnx
      have HKL := Lib.hid hkL
      clear hdr
      dsimp only at hy
      have e1 : ((k + 1 : Nat) : Int) - 1 = k := by omega
      rw [e1]
      clear hnx
      gi_wp2
      refine hR.mono ?_
      rintro e W3 (⟨rfl, hJ3, hk3⟩ | ⟨rfl, hJx3⟩)
      · have hk4 := KpB.t HNX.out hk3
        have HK4 := Lib.hid hk4
        clear hk3 hk4
        gi_wp2
        go_roundw
        case rel => exact ⟨k, pre ++ [⟨(k, z), HKL.out⟩], by omega, rfl, by simp; omega, HN, hJ3, HK4.out⟩
        case measure => first | (simp [intOf]; done) | (simp [intOf]; omega)
      · gi_wp2
        refine bodyPost_ret (results_none rfl _ _ _) rfl ?_
        refine ⟨⟨_, rfl⟩, .inr ⟨pre ++ [⟨(k, z), HKL.out⟩], ?_, hJx3⟩⟩
        rw [HN.out]
        exact ⟨(p.take k).reverse, by rw [← List.reverse_append, List.take_append_drop]⟩

theorem backward_stops (n : Nat) (hn : 1 ≤ n) (Bs B g cap L : Nat) (p : List Nat) (hp : p.length ≤ 1000) (hL : ∀ k ∈ p, k < L) (hg : g < B) (w : World) (hB : B ≤ w.heap.size)
    (hBs : w.cell? ⟨Bs, 0, none⟩ = some (.slice (some ⟨g, 0, none⟩) p.length cap)) (hc : ∀ j (hj : j < p.length), w.cell? ⟨g, j, none⟩ = some (.int .i64 (p[j] : Nat))) :
    SeqStopsK Fence.wide n Tryz.prog 137 #[.pointer (some ⟨Bs, 0, none⟩)] (fun x : Ix2 L => #[.int .i64 (x.1.1 : Int), .int .i64 (x.1.2 : Int)]) (KpB B Bs) (fun ys => ys.map (fun x : Ix2 L => x.1.2) = p.reverse) (fun pre => pre.map (fun x : Ix2 L => x.1.2) <+: p.reverse) p.length w := fun l J Jx W hW hJ _ hY h0 =>
  backward1_in n l Bs B g cap L p hn hp hL hg J Jx hY W ((hW.cell (p := ⟨Bs, 0, none⟩) (cell_in hBs)).trans hBs) (fun j hj => (hW.cell (p := ⟨g, j, none⟩) (cell_in (hc j hj))).trans (hc j hj)) h0
end

section
set_option linter.unusedVariables false
open Go.RowKit Go.Shelf
set_option linter.unusedVariables false

attribute [local go_sem] Oper.semAt_some

/-- What has been gathered when some rounds are over. -/
def cOf {L : Nat} (l : List Sty) (pre : List (Ix2 L)) : Chg := (pre.map (fun x : Ix2 L => x.1.2)).foldl (fun c k => thenC c (gets l k).ch) none0
theorem cOf_snoc {L : Nat} (l : List Sty) (pre : List (Ix2 L)) (x : Ix2 L) : cOf l (pre ++ [x]) = thenC (cOf l pre) (gets l x.1.2).ch := by simp [cOf]
theorem cOf_all {L : Nat} (l : List Sty) {p : List Nat} {ys : List (Ix2 L)} (h : ys.map (fun x : Ix2 L => x.1.2) = p.reverse) : cOf l ys = wholeP l p := by
  unfold cOf wholeP; rw [h, List.foldl_reverse]
def chgCells (c : Chg) : Array Value := #[.int .i64 c.on, .int .i64 c.off, .int .i64 c.col]
theorem block_own {B b : Nat} {o : Obj} (hc : o.isCells = true) {X Y : World} {row : Option Nat} (h : X.heap[b]? = some o) (hg : X.grownBy Y row) (hr : ∀ r, row = some r → B ≤ r ∧ ∃ o, X.heap[r]? = some o ∧ o.isCells = false) : Y.heap[b]? = some o := by
  refine (hg.block b (Array.getElem?_eq_some_iff.1 h).1 (fun e => ?_)).trans h
  obtain ⟨_, o', ho, hc'⟩ := hr b e.symm
  rw [h] at ho; cases ho; rw [hc] at hc'; cases hc'

theorem keeps_below {W W' : World} (h : Below W.heap.size W W') : KeepsOthers W W' := ⟨h.size, fun k o hk _ => (h.block k (Array.getElem?_eq_some_iff.1 hk).1).trans hk⟩
theorem path_pos {l : List Sty} : ∀ {f i : Nat} {p : List Nat}, path l f i = some p → 0 < p.length
  | 0, i, p, h => by simp [path] at h
  | f + 1, i, p, h => by
    unfold path at h
    cases e : upS l i with
    | none => rw [e] at h; simp at h; subst h; simp
    | some j =>
      rw [e] at h
      obtain ⟨q, hq, rfl⟩ := Option.map_eq_some_iff.1 h
      simp
theorem natsV_get {p : List Nat} {j : Nat} (hj : j < p.length) : (natsV p)[j]? = some (.int .i64 (p[j] : Nat)) := by simp [natsV, hj]

set_option maxRecDepth 100000 in
set_option maxHeartbeats 8000000 in
theorem whole_in (l : List Sty) (i : Nat) (v : Value) (w : World) (h : Sh w v l) (hi : i < l.length) (p : List Nat) (hp : path l 8 i = some p) :
    CallsIn Fence.wide 12 Tryz.prog 85 #[v, .int .i64 i] w (Says (chgVal (wholeP l p)) w) := by
  have hf0 : Fence.wide.fn 110 := trivial
  have hf1 : Fence.wide.fn 137 := trivial
  have hf2 : Fence.wide.fn 75 := trivial
  obtain ⟨pa, cap, rfl, hc1, hc2⟩ := h.form
  have HS := Lib.hid h
  have HI := Lib.hid hi
  have HP := Lib.hid hp
  have HPL := Lib.hid (path_len hp)
  have HPK := Lib.hid (path_lt hp hi)
  clear h hi hp
  have hA2 := ((Below.refl _ w).alloc (Nat.le_refl _) (.cells #[.slice pa l.length cap] 22)).alloc (by simp) (.cells #[.int .i64 0, .int .i64 0, .int .i64 0] 64)
  have HA2 := Lib.hid hA2
  have HC := Lib.hid (chain_pro l i (.slice pa l.length cap) _ (HS.out.below hA2) HI.out)
  clear hA2
  refine callsIn_of_wp_marks Tryz.func85 rfl trivial ?_ rfl
  simp only [Tryz.ntmps85, List.size_toArray, List.length_cons, List.length_nil, Nat.reduceAdd, Nat.reduceSub, Array.replicate_succ, Array.replicate_zero, List.push_toArray, List.append_toArray, List.nil_append, List.cons_append]
  gi_wp2_with (gi_at_call 75; refine (callsIn_wide.2 HC.out).mono ?_; intro e w1 hh; obtain ⟨r, rfl, hown, hb⟩ := chain_some HP.out hh)
  have hpp := path_pos HP.out
  obtain ⟨g, cp, rfl, hg1, hg2⟩ := World.ownsRow.form hown hpp
  have hcells : ∀ j (hj : j < p.length), w1.cell? ⟨g, j, none⟩ = some (.int .i64 (p[j] : Nat)) := fun j hj => (World.ownsRow.cellAt hown j (by omega)).trans (natsV_get hj)
  have HW1 := Lib.hid (HA2.out.trans (hb.mono HA2.out.size))
  have hbx0 := (hb.block w.heap.size (by simp; omega)).trans ((Below.heap_alloc _ (.cells #[.int .i64 0, .int .i64 0, .int .i64 0] 64) w.heap.size (by simp)).trans (World.alloc_heap_new w (.cells #[.slice pa l.length cap] 22)))
  have hbx1 : w1.heap[w.heap.size + 1]? = some (.cells #[.int .i64 0, .int .i64 0, .int .i64 0] 64 (0, 0)) := (hb.block (w.heap.size + 1) (by simp)).trans (by have h := heap_alloc_new (w.alloc (.cells #[.slice pa l.length cap] 22)) (.cells #[.int .i64 0, .int .i64 0, .int .i64 0] 64); rw [World.size_alloc] at h; exact h)
  have hws : w.heap.size + 1 < w1.heap.size := (Array.getElem?_eq_some_iff.1 hbx1).1
  obtain ⟨B, hB⟩ : ∃ B, w1.heap.size = B := ⟨_, rfl⟩
  have HB1 := Lib.hid hb
  have HBq := Lib.hid hB
  clear hb hg1 hown hB
  refine (backward_in 11 _ _ ⟨_, _, _, rfl⟩).mono ?_
  rintro e w2 ⟨rfl, rfl⟩
  gi_wp2_with fail
  have hB := HBq.out
  rw [hB] at hg2 hws
  simp only [hB]
  have bC := Below.heap_alloc (w1.alloc (.cells #[.int .i64 0, .int .i64 0, .int .i64 (-1)] 64)) (.cells #[.slice (some ⟨g, 0, none⟩) p.length cp] 49) w1.heap.size (by simp)
  rw [heap_alloc_new, hB] at bC
  have bS := heap_alloc_new (w1.alloc (.cells #[.int .i64 0, .int .i64 0, .int .i64 (-1)] 64)) (.cells #[.slice (some ⟨g, 0, none⟩) p.length cp] 49)
  rw [World.size_alloc, hB] at bS
  have hb01 : Below B w1 ((w1.alloc (.cells #[.int .i64 0, .int .i64 0, .int .i64 (-1)] 64)).alloc (.cells #[.slice (some ⟨g, 0, none⟩) p.length cp] 49)) := by
    rw [← hB]; exact ((Below.refl _ w1).alloc (Nat.le_refl _) _).alloc (by simp) _
  have hsz0 : ((w1.alloc (.cells #[.int .i64 0, .int .i64 0, .int .i64 (-1)] 64)).alloc (.cells #[.slice (some ⟨g, 0, none⟩) p.length cp] 49)).heap.size = B + 2 := by simp [hB]
  obtain ⟨W0, hW0⟩ : ∃ W0, (w1.alloc (.cells #[.int .i64 0, .int .i64 0, .int .i64 (-1)] 64)).alloc (.cells #[.slice (some ⟨g, 0, none⟩) p.length cp] 49) = W0 := ⟨_, rfl⟩
  rw [hW0] at bC bS hb01 hsz0
  rw [hW0]
  clear hW0
  have cS : W0.cell? ⟨B + 1, 0, none⟩ = some (.slice (some ⟨g, 0, none⟩) p.length cp) := by rw [cell_of_row _ _ _ _ _ _ bS]; rfl
  have hcg : ∀ j (hj : j < p.length), W0.cell? ⟨g, j, none⟩ = some (.int .i64 (p[j] : Nat)) := fun j hj => (hb01.cell (p := ⟨g, j, none⟩) hg2).trans (hcells j hj)
  have hx0 := (hb01.block w.heap.size (by omega)).trans hbx0
  have hx1 := (hb01.block (w.heap.size + 1) (by omega)).trans hbx1
  have HX1 := Lib.hid hx1
  have HW0 := Lib.hid (HW1.out.trans (hb01.mono (by omega)))
  clear hcells hbx0 hbx1 hb01 hx1
  refine wpIn_rangeFunc_ownH rfl (by omega) (gf := 137) (lb := #[.pointer (some ⟨B + 1, 0, none⟩)]) rfl trivial (enters_of Tryz.func137 (by kernel_rfl) rfl)
    (backward_stops (12 - 1) (by omega) (B + 1) B g cp l.length p (Nat.le_trans HPL.out (by omega)) HPK.out hg2 W0 (by omega) cS hcg) KpB.t (fun W l o o' hl h hc hw => KpB.put W l o o' (by omega) h hc hw) (Below.refl _ _) (fun _ => rfl)
    (fun pre W => W.heap[B]? = some (.cells (chgCells (cOf l pre)) 64 (0, 0)) ∧ Below B W0 W)
    (fun _ _ _ => False)
    (OwnFrom.and (fun pre X Y row hs hg hr => block_own rfl hs hg hr) (ownFrom_below (by omega) (by omega)))
    (fun _ _ _ _ _ hs _ _ => hs)
    ⟨bC, Below.refl _ _⟩
    (fun x a' W => a' = { tmps := #[.slice pa l.length cap, .int .i64 i, .pointer (some ⟨w.heap.size, 0, none⟩), undef, .pointer (some ⟨w.heap.size + 1, 0, none⟩), .slice (some ⟨g, 0, none⟩) p.length cp, .bool true, .pointer (some ⟨B, 0, none⟩), undef, .int .i64 (x.1.2 : Nat), .tuple #[.slice (some ⟨g, 0, none⟩) p.length cp, .bool true], .slice pa l.length cap, .int .i64 i, .tuple #[.slice (some ⟨g, 0, none⟩) p.length cp, .bool true], .slice (some ⟨g, 0, none⟩) p.length cp, .bool true, .agg #[.int .i64 0, .int .i64 0, .int .i64 (-1)], .slice (some ⟨g, 0, none⟩) p.length cp, .func (.func 137) #[] #[.pointer (some ⟨B + 1, 0, none⟩)], .int .i64 (x.1.1 : Nat), .int .i64 (x.1.2 : Nat), undef, undef, undef, undef, undef, undef, undef, undef], defers := [] })
    (fun x a' _ X Y row hs hg hr => hs)
    ?assign ?body ?done ?stop
  case assign =>
    rintro l' pre x W K hI hK
    gi_wp2
    exact hK _ _ ((KeepsOthers.refl _).from _) ⟨Below.refl _ _, fun _ h => h⟩ hI rfl
  case body =>
    rintro l' pre x a' W hl ⟨r, hr⟩ ⟨bC1, hB1⟩ rfl hlt
    obtain ⟨⟨xi, xk⟩, hxk⟩ := x
    have hBW := HW0.out.trans (hB1.mono (by omega))
    have d0 : W.cell? ⟨w.heap.size, 0, none⟩ = some (.slice pa l.length cap) := by rw [cell_of_row _ _ _ _ _ _ ((hB1.block w.heap.size (by omega)).trans hx0)]; rfl
    obtain ⟨b, off, rfl, _, _, c2, c3, c4⟩ := (HS.out.below hBW).cells hxk
    have hbw : b < w.heap.size := by
      obtain ⟨b', off', e', _, _, q2, _⟩ := HS.out.cells hxk
      cases e'; exact cell_in q2
    obtain ⟨ck, hck⟩ : ∃ ck, (gets l xk).ch = ck := ⟨_, rfl⟩
    rw [hck] at c2 c3 c4
    have HCK := Lib.hid hck
    obtain ⟨co, hco⟩ : ∃ co, cOf l pre = co := ⟨_, rfl⟩
    have HCO := Lib.hid hco
    rw [hco] at bC1
    have e0 : W.cell? ⟨B, 0, none⟩ = some (.int .i64 co.on) := by rw [cell_of_row _ _ _ _ _ _ bC1]; rfl
    have e1 : W.cell? ⟨B, 1, none⟩ = some (.int .i64 co.off) := by rw [cell_of_row _ _ _ _ _ _ bC1]; rfl
    have e2 : W.cell? ⟨B, 2, none⟩ = some (.int .i64 co.col) := by rw [cell_of_row _ _ _ _ _ _ bC1]; rfl
    have HBC := Lib.hid bC1
    have HBB := Lib.hid hB1
    have hBlt := (Array.getElem?_eq_some_iff.1 bC1).1
    clear hck hco bC1 hB1 hBW
    have hxi : (xk : Int) < l.length := by omega
    gi_wp2
    refine region_inRound (by kernel_rfl) (by kernel_rfl) ?_
    refine wpAny_of_held (S := fun w' => w'.cell? ⟨w.heap.size, 0, none⟩ = some (.slice (some ⟨b, off, none⟩) l.length cap) ∧ w'.cell? ⟨b, off + xk * 5 + 2, none⟩ = some (.int .i64 ck.on) ∧ w'.cell? ⟨b, off + xk * 5 + 3, none⟩ = some (.int .i64 ck.off) ∧ w'.cell? ⟨b, off + xk * 5 + 4, none⟩ = some (.int .i64 ck.col)) _ _ _ _ ?_
    have hS : W.drew.cell? ⟨w.heap.size, 0, none⟩ = some (.slice (some ⟨b, off, none⟩) l.length cap) ∧ W.drew.cell? ⟨b, off + xk * 5 + 2, none⟩ = some (.int .i64 ck.on) ∧ W.drew.cell? ⟨b, off + xk * 5 + 3, none⟩ = some (.int .i64 ck.off) ∧ W.drew.cell? ⟨b, off + xk * 5 + 4, none⟩ = some (.int .i64 ck.col) := ⟨d0, c2, c3, c4⟩
    refine wpAnyH_take (i := 1) (v := .slice (some ⟨b, off, none⟩) l.length cap) rfl (by kernel_rfl) (by kernel_rfl) (by kernel_rfl) (fun _ _ _ h => h) (.inl ⟨by rfl, fun w' hS => by have h1 := hS.1; have h2 := hS.2.1; have h3 := hS.2.2.1; have h4 := hS.2.2.2; go_simp⟩) hS ?_
    refine wpAnyH_take (i := 2) (v := .int .i64 (xk : Nat)) rfl (by kernel_rfl) (by kernel_rfl) (by kernel_rfl) (fun _ _ _ h => h) (.inl ⟨by rfl, fun w' hS => by have h1 := hS.1; have h2 := hS.2.1; have h3 := hS.2.2.1; have h4 := hS.2.2.2; go_simp⟩) hS ?_
    refine wpAnyH_take (i := 3) (v := .pointer (some ⟨b, off + xk * 5, none⟩)) rfl (by kernel_rfl) (by kernel_rfl) (by kernel_rfl) (fun _ _ _ h => h) (.inl ⟨by rfl, fun w' hS => by have h1 := hS.1; have h2 := hS.2.1; have h3 := hS.2.2.1; have h4 := hS.2.2.2; go_simp⟩) hS ?_
    refine wpAnyH_take (i := 4) (v := .pointer (some ⟨b, off + xk * 5 + 2, none⟩)) rfl (by kernel_rfl) (by kernel_rfl) (by kernel_rfl) (fun _ _ _ h => h) (.inl ⟨by rfl, fun w' hS => by have h1 := hS.1; have h2 := hS.2.1; have h3 := hS.2.2.1; have h4 := hS.2.2.2; go_simp⟩) hS ?_
    refine wpAnyH_take (i := 5) (v := chgVal ck) rfl (by kernel_rfl) (by kernel_rfl) (by kernel_rfl) (fun _ _ _ h => h) (.inl ⟨by rfl, fun w' hS => by have h1 := hS.1; have h2 := hS.2.1; have h3 := hS.2.2.1; have h4 := hS.2.2.2; unfold chgVal; go_simp⟩) hS ?_
    refine wpAnyH_all (rs := [0]) (by kernel_rfl) (by simp) ?_
    intro i' hi'
    obtain rfl : i' = 0 := by simpa using hi'
    refine op_via rfl (by rfl) (fun K hK => ?_)
    go_simp
    refine hK _ _ ⟨hS, ?_⟩
    clear hK K
    refine wpAnyH_all (rs := [6]) (by kernel_rfl) (by simp) ?_
    intro i' hi'
    obtain rfl : i' = 6 := by simpa using hi'
    refine op_via rfl (by rfl) (fun K hK => ?_)
    go_simp
    refine (then_pro co ck _).mono ?_
    rintro e W2 ⟨rfl, hb2⟩
    have hb3 : Below W.heap.size W W2 := ((Below.refl W.heap.size W).drew).trans hb2
    have bC2 := (hb3.block B hBlt).trans HBC.out
    have hsw : w.heap.size < W.heap.size := by omega
    have hS2 := And.intro ((hb3.cell (p := ⟨w.heap.size, 0, none⟩) hsw).trans d0) (And.intro ((hb3.cell (p := ⟨b, off + xk * 5 + 2, none⟩) (cell_in c2)).trans c2) (And.intro ((hb3.cell (p := ⟨b, off + xk * 5 + 3, none⟩) (cell_in c2)).trans c3) ((hb3.cell (p := ⟨b, off + xk * 5 + 4, none⟩) (cell_in c2)).trans c4)))
    refine hK _ _ ⟨hS2, ?_⟩
    clear hK K
    have f0 : W2.cell? ⟨B, 0, none⟩ = some (.int .i64 co.on) := by rw [cell_of_row _ _ _ _ _ _ bC2]; rfl
    have f1 : W2.cell? ⟨B, 1, none⟩ = some (.int .i64 co.off) := by rw [cell_of_row _ _ _ _ _ _ bC2]; rfl
    have f2 : W2.cell? ⟨B, 2, none⟩ = some (.int .i64 co.col) := by rw [cell_of_row _ _ _ _ _ _ bC2]; rfl
    have fz : ∀ k, W2.frozen? ⟨B, k, none⟩ = false := fun k => frozen_of_row W2 B k _ _ bC2
    have z0 := fz 0
    have z1 := fz 1
    have z2 := fz 2
    clear fz
    refine wpAnyH_all (rs := [7]) (by kernel_rfl) (by simp) ?_
    intro i' hi'
    obtain rfl : i' = 7 := by simpa using hi'
    refine op_via rfl (by rfl) (fun K hK => ?_)
    unfold chgVal
    go_simp
    have bC3 := heap_setCell_same _ B 2 _ _ (.int .i64 (thenC co ck).col) (heap_setCell_same _ B 1 _ _ (.int .i64 (thenC co ck).off) (heap_setCell_same W2 B 0 _ _ (.int .i64 (thenC co ck).on) bC2))
    have hb4 : Below B W2 (((W2.setCell ⟨B, 0, none⟩ (.int .i64 (thenC co ck).on)).setCell ⟨B, 1, none⟩ (.int .i64 (thenC co ck).off)).setCell ⟨B, 2, none⟩ (.int .i64 (thenC co ck).col)) :=
      (((Below.refl B W2).setCell (p := ⟨B, 0, none⟩) (Nat.le_refl _) _).setCell (p := ⟨B, 1, none⟩) (Nat.le_refl _) _).setCell (p := ⟨B, 2, none⟩) (Nat.le_refl _) _
    have hk5 : KeepsOthers W (((W2.setCell ⟨B, 0, none⟩ (.int .i64 (thenC co ck).on)).setCell ⟨B, 1, none⟩ (.int .i64 (thenC co ck).off)).setCell ⟨B, 2, none⟩ (.int .i64 (thenC co ck).col)) :=
      (((keeps_below hb3).trans (KeepsOthers.setCell _ _ _)).trans (KeepsOthers.setCell _ _ _)).trans (KeepsOthers.setCell _ _ _)
    obtain ⟨W3, hW3⟩ : ∃ W3, ((W2.setCell ⟨B, 0, none⟩ (.int .i64 (thenC co ck).on)).setCell ⟨B, 1, none⟩ (.int .i64 (thenC co ck).off)).setCell ⟨B, 2, none⟩ (.int .i64 (thenC co ck).col) = W3 := ⟨_, rfl⟩
    have hs5 : ∀ v, W2.cell? ⟨B + 1, 0, none⟩ = some v → W3.cell? ⟨B + 1, 0, none⟩ = some v := by
      intro v hv
      rw [← hW3]
      refine (World.cell?_of_block (a := ⟨B + 1, 0, none⟩) ?_).trans hv
      rw [Below.heap_setCell _ _ _ _ (by simp), Below.heap_setCell _ _ _ _ (by simp), Below.heap_setCell _ _ _ _ (by simp)]
    rw [hW3] at bC3 hb4 hk5 ⊢
    have hS3 := And.intro ((hb4.cell (p := ⟨w.heap.size, 0, none⟩) (by show w.heap.size < B; omega)).trans hS2.1) (And.intro ((hb4.cell (p := ⟨b, off + xk * 5 + 2, none⟩) (by show b < B; omega)).trans hS2.2.1) (And.intro ((hb4.cell (p := ⟨b, off + xk * 5 + 3, none⟩) (by show b < B; omega)).trans hS2.2.2.1) ((hb4.cell (p := ⟨b, off + xk * 5 + 4, none⟩) (by show b < B; omega)).trans hS2.2.2.2)))
    refine hK _ _ ⟨hS3, ?_⟩
    clear hK K
    refine wpAnyH_done (by kernel_rfl) ?_ _
    simp only [Just]
    gi_wp2
    have hbB : Below B W W3 := (hb3.mono (by omega)).trans hb4
    refine ⟨hk5.from _, ⟨hbB, fun v hv => hs5 v ((hb3.cell (p := ⟨B + 1, 0, none⟩) (cell_in hv)).trans hv)⟩, ?_, HBB.out.trans hbB⟩
    rw [cOf_snoc, HCO.out]
    show W3.heap[B]? = some (Obj.cells (chgCells (thenC co (gets l xk).ch)) 64 (0, 0))
    rw [HCK.out]
    exact bC3
  case done =>
    rintro D ys W hD hys ⟨bC1, hB1⟩ hK
    have hco := cOf_all l hys
    rw [hco] at bC1
    have e0 : W.cell? ⟨B, 0, none⟩ = some (.int .i64 (wholeP l p).on) := by rw [cell_of_row _ _ _ _ _ _ bC1]; rfl
    have e1 : W.cell? ⟨B, 1, none⟩ = some (.int .i64 (wholeP l p).off) := by rw [cell_of_row _ _ _ _ _ _ bC1]; rfl
    have e2 : W.cell? ⟨B, 2, none⟩ = some (.int .i64 (wholeP l p).col) := by rw [cell_of_row _ _ _ _ _ _ bC1]; rfl
    have hx := (hB1.block (w.heap.size + 1) (by omega)).trans HX1.out
    have g0 : W.cell? ⟨w.heap.size + 1, 0, none⟩ = some (.int .i64 0) := by rw [cell_of_row _ _ _ _ _ _ hx]; rfl
    have g1 : W.cell? ⟨w.heap.size + 1, 1, none⟩ = some (.int .i64 0) := by rw [cell_of_row _ _ _ _ _ _ hx]; rfl
    have g2 : W.cell? ⟨w.heap.size + 1, 2, none⟩ = some (.int .i64 0) := by rw [cell_of_row _ _ _ _ _ _ hx]; rfl
    have z0 := frozen_of_row W (w.heap.size + 1) 0 _ _ hx
    have z1 := frozen_of_row W (w.heap.size + 1) 1 _ _ hx
    have z2 := frozen_of_row W (w.heap.size + 1) 2 _ _ hx
    have HBW := Lib.hid (HW0.out.trans (hB1.mono (by omega)))
    have HK := Lib.hid hK
    have HX := Lib.hid hx
    clear hco bC1 hB1 hys hx
    have q0 := heap_setCell_same _ (w.heap.size + 1) 2 _ _ (.int .i64 (wholeP l p).col) (heap_setCell_same _ (w.heap.size + 1) 1 _ _ (.int .i64 (wholeP l p).off) (heap_setCell_same W (w.heap.size + 1) 0 _ _ (.int .i64 (wholeP l p).on) HX.out))
    have hk3 := (((KeepsOthers.setCell W ⟨w.heap.size + 1, 0, none⟩ (.int .i64 (wholeP l p).on)).trans (KeepsOthers.setCell _ ⟨w.heap.size + 1, 1, none⟩ (.int .i64 (wholeP l p).off))).trans (KeepsOthers.setCell _ ⟨w.heap.size + 1, 2, none⟩ (.int .i64 (wholeP l p).col))).same D _ hK rfl
    have hb3 := ((HBW.out.setCell (p := ⟨w.heap.size + 1, 0, none⟩) (by simp) (.int .i64 (wholeP l p).on)).setCell (p := ⟨w.heap.size + 1, 1, none⟩) (by simp) (.int .i64 (wholeP l p).off)).setCell (p := ⟨w.heap.size + 1, 2, none⟩) (by simp) (.int .i64 (wholeP l p).col)
    have HQ := Lib.hid q0
    have HK3 := Lib.hid hk3
    have HB3 := Lib.hid hb3
    clear q0 hk3 hb3 hK
    gi_wp2
    refine ⟨by simp, .inl ⟨_, _, rfl, run_takeDeferred HK3.out, ?_⟩⟩
    have r0 := (cell_of_row _ _ 0 _ _ _ HQ.out).trans rfl
    have r1 := (cell_of_row _ _ 1 _ _ _ HQ.out).trans rfl
    have r2 := (cell_of_row _ _ 2 _ _ _ HQ.out).trans rfl
    have k0 := cell_kept r0 (grownBy_putObj' _ D (.deferred none)) (fun r e => by cases e; exact ⟨_, HK3.out, rfl⟩)
    have k1 := cell_kept r1 (grownBy_putObj' _ D (.deferred none)) (fun r e => by cases e; exact ⟨_, HK3.out, rfl⟩)
    have k2 := cell_kept r2 (grownBy_putObj' _ D (.deferred none)) (fun r e => by cases e; exact ⟨_, HK3.out, rfl⟩)
    refine ⟨chgVal (wholeP l p), ?_, rfl, HB3.out.trans (belowK_b (w := w) (Nat.le_refl _) _ D _ _ (by omega) HK3.out rfl rfl)⟩
    simp [results, Tryz.f85, go_sem, k0, k1, k2, chgVal]
  case stop =>
    rintro D c pre W _ _ h _
    exact h.elim
end

section
set_option linter.unusedVariables false
open Go.RowKit
set_option linter.unusedVariables false

theorem whole_pro (l : List Sty) (i : Nat) (v : Value) (w : World) (h : Sh w v l) (hi : i < l.length) (p : List Nat) (hp : path l 8 i = some p) :
    Calls Tryz.prog 85 #[v, .int .i64 i] w (Says (chgVal (wholeP l p)) w) := callsIn_wide.1 (whole_in l i v w h hi p hp)
/-- Behind a store into a box of three cells, of two. -/
theorem set3 {w1 : World} {b : Nat} {u0 u1 u2 : Value} {t : TypeId} (hx : w1.heap[b]? = some (.cells #[u0, u1, u2] t (0, 0))) (a0 a1 a2 : Value) :
    ∃ W, ((w1.setCell ⟨b, 0, none⟩ a0).setCell ⟨b, 1, none⟩ a1).setCell ⟨b, 2, none⟩ a2 = W ∧ W.heap[b]? = some (.cells #[a0, a1, a2] t (0, 0)) ∧ W.cell? ⟨b, 0, none⟩ = some a0 ∧ W.cell? ⟨b, 1, none⟩ = some a1 ∧ W.cell? ⟨b, 2, none⟩ = some a2 ∧ Below b w1 W := by
  have h3 := heap_setCell_same _ b 2 _ _ a2 (heap_setCell_same _ b 1 _ _ a1 (heap_setCell_same w1 b 0 _ _ a0 hx))
  exact ⟨_, rfl, h3, (cell_of_row _ _ 0 _ _ _ h3).trans rfl, (cell_of_row _ _ 1 _ _ _ h3).trans rfl, (cell_of_row _ _ 2 _ _ _ h3).trans rfl,
    (((Below.refl b w1).setCell (p := ⟨b, 0, none⟩) (Nat.le_refl _) _).setCell (p := ⟨b, 1, none⟩) (Nat.le_refl _) _).setCell (p := ⟨b, 2, none⟩) (Nat.le_refl _) _⟩
def chgE (p : Chg × Nat) : Value := .tuple #[chgVal p.1, .int .i64 p.2]
theorem wholeM_bad {l : List Sty} {x : List UInt8} (h : ¬ (checkM l).2 = 0) : wholeM l x = (zeroC, (checkM l).2) := by unfold wholeM; rw [if_pos h]
theorem wholeM_no {l : List Sty} {x : List UInt8} (h : (checkM l).2 = 0) (h2 : fnd l x = none) : wholeM l x = (zeroC, 66) := by unfold wholeM; rw [if_neg (by simpa using h), h2]
theorem wholeM_ok {l : List Sty} {x : List UInt8} {i : Nat} {p : List Nat} (h : (checkM l).2 = 0) (h2 : fnd l x = some i) (hp : path l 8 i = some p) : wholeM l x = (wholeP l p, 0) := by
  unfold wholeM; rw [if_neg (by simpa using h), h2]; simp [wholeI, hp]

set_option maxRecDepth 100000 in
set_option maxHeartbeats 4000000 in
theorem Whole_pro (l : List Sty) (x : List UInt8) (v : Value) (w : World) (h : Sh w v l) (hf : Fit l) :
    Calls Tryz.prog 53 #[v, .string (bs x)] w (Says (chgE (wholeM l x)) w) := by
  obtain ⟨pa, cap, rfl, hc1, hc2⟩ := h.form
  have hA := (Below.refl _ w).alloc (Nat.le_refl _) (.cells #[.int .i64 0, .int .i64 0, .int .i64 0] 64)
  have HS := Lib.hid h
  have HFt := Lib.hid hf
  have HA := Lib.hid hA
  have HX := Lib.hid (heap_alloc_new w (.cells #[.int .i64 0, .int .i64 0, .int .i64 0] 64))
  have HC := Lib.hid (check_pro' l _ _ (h.below hA) hf)
  obtain ⟨⟨at', ec⟩, hc⟩ : ∃ c, checkM l = c := ⟨_, rfl⟩
  have hbad := @wholeM_bad l x
  have hno := @wholeM_no l x
  have hok := @wholeM_ok l x
  have hgood := @checkM_good l
  rw [hc] at HC hbad hno hok hgood
  unfold ckV at HC
  dsimp only at HC hbad hno hok hgood
  clear h hf hA hc
  by_cases he : ec = 0
  · subst he
    have G := Lib.hid (hgood.1 rfl)
    have hno' := hno rfl
    have hok' := fun i p => hok (i := i) (p := p) rfl
    clear hbad hgood hno hok
    obtain ⟨o, ho⟩ : ∃ o, fnd l x = o := ⟨_, rfl⟩
    rw [ho] at hno' hok'
    rcases Option.eq_none_or_eq_some o with e | ⟨j, e⟩
    · have HV := Lib.hid (hno' e)
      have to : o.isSome = false := by rw [e]; rfl
      have HO := Lib.hid ho
      clear hno' hok' e ho
      go_enter Tryz.func53, Tryz.ntmps53
      go_wp2_with fail
      refine HC.out.mono ?_
      rintro e w1 ⟨rfl, hb⟩
      have HB := Lib.hid (HA.out.trans (hb.mono HA.out.size))
      have hx := (hb.block w.heap.size (Array.getElem?_eq_some_iff.1 HX.out).1).trans HX.out
      have HX1 := Lib.hid hx
      have z0 := frozen_of_row w1 w.heap.size 0 _ _ hx
      have z1 := frozen_of_row w1 w.heap.size 1 _ _ hx
      have z2 := frozen_of_row w1 w.heap.size 2 _ _ hx
      have c0 : w1.cell? ⟨w.heap.size, 0, none⟩ = some (.int .i64 0) := by rw [cell_of_row _ _ _ _ _ _ hx]; rfl
      have c1 : w1.cell? ⟨w.heap.size, 1, none⟩ = some (.int .i64 0) := by rw [cell_of_row _ _ _ _ _ _ hx]; rfl
      have c2 : w1.cell? ⟨w.heap.size, 2, none⟩ = some (.int .i64 0) := by rw [cell_of_row _ _ _ _ _ _ hx]; rfl
      clear hb hx
      go_wp2_with fail
      refine (find_pro l x _ w1 (HS.out.below HB.out)).mono ?_
      rw [HO.out]
      unfold fndV
      rintro e w2 ⟨rfl, rfl⟩
      go_wp2_with fail
      obtain ⟨W, hW, hr, k0, k1, k2, hbW⟩ := set3 HX1.out (.int .i64 (zeroC).on) (.int .i64 (zeroC).off) (.int .i64 (zeroC).col)
      simp only [zeroC] at hW
      rw [hW]
      simp only [zeroC] at k0 k1 k2
      rw [HV.out]
      exact bodyPost_ret (v := chgE (zeroC, 66)) (by simp [results, Tryz.results53, go_sem, k0, k1, k2, chgE, chgVal, zeroC]) rfl ⟨rfl, HB.out.trans hbW⟩
    · have HJ := Lib.hid (fnd_some (ho.trans e)).1
      obtain ⟨p, hp⟩ := G.out.path HJ.out
      have HP := Lib.hid hp
      have HV := Lib.hid (hok' j p e hp)
      have to : o.isSome = true := by rw [e]; rfl
      have HG := Lib.hid (show o.getD 0 = j by rw [e]; rfl)
      have HO := Lib.hid ho
      clear hno' hok' e ho hp
      go_enter Tryz.func53, Tryz.ntmps53
      go_wp2_with fail
      refine HC.out.mono ?_
      rintro e w1 ⟨rfl, hb⟩
      have HB := Lib.hid (HA.out.trans (hb.mono HA.out.size))
      have hx := (hb.block w.heap.size (Array.getElem?_eq_some_iff.1 HX.out).1).trans HX.out
      clear hb
      have HXq := Lib.hid hx
      clear hx
      go_wp2_with fail
      refine (find_pro l x _ w1 (HS.out.below HB.out)).mono ?_
      rw [HO.out]
      unfold fndV
      rintro e w2 ⟨rfl, rfl⟩
      go_wp2_with fail
      rw [HG.out]
      refine (whole_pro l j _ w1 (HS.out.below HB.out) HJ.out p HP.out).mono ?_
      rintro e w2 ⟨rfl, hb⟩
      have HB2 := Lib.hid (HB.out.trans (hb.mono HB.out.size))
      have hx := (hb.block w.heap.size (Array.getElem?_eq_some_iff.1 HXq.out).1).trans HXq.out
      have HX1 := Lib.hid hx
      have z0 := frozen_of_row w2 w.heap.size 0 _ _ hx
      have z1 := frozen_of_row w2 w.heap.size 1 _ _ hx
      have z2 := frozen_of_row w2 w.heap.size 2 _ _ hx
      have c0 : w2.cell? ⟨w.heap.size, 0, none⟩ = some (.int .i64 0) := by rw [cell_of_row _ _ _ _ _ _ hx]; rfl
      have c1 : w2.cell? ⟨w.heap.size, 1, none⟩ = some (.int .i64 0) := by rw [cell_of_row _ _ _ _ _ _ hx]; rfl
      have c2 : w2.cell? ⟨w.heap.size, 2, none⟩ = some (.int .i64 0) := by rw [cell_of_row _ _ _ _ _ _ hx]; rfl
      clear hb hx
      unfold chgVal
      go_wp2_with fail
      obtain ⟨W, hW, hr, k0, k1, k2, hbW⟩ := set3 HX1.out (.int .i64 (wholeP l p).on) (.int .i64 (wholeP l p).off) (.int .i64 (wholeP l p).col)
      rw [hW]
      rw [HV.out]
      exact bodyPost_ret (v := chgE (wholeP l p, 0)) (by simp [results, Tryz.results53, go_sem, k0, k1, k2, chgE, chgVal]) rfl ⟨rfl, HB2.out.trans hbW⟩
  · have HV := Lib.hid (hbad he)
    have t := natne he
    clear hbad hno hok hgood he
    go_enter Tryz.func53, Tryz.ntmps53
    go_wp2_with fail
    refine HC.out.mono ?_
    rintro e w1 ⟨rfl, hb⟩
    have HB := Lib.hid (HA.out.trans (hb.mono HA.out.size))
    have hx := (hb.block w.heap.size (Array.getElem?_eq_some_iff.1 HX.out).1).trans HX.out
    have HX1 := Lib.hid hx
    have z0 := frozen_of_row w1 w.heap.size 0 _ _ hx
    have z1 := frozen_of_row w1 w.heap.size 1 _ _ hx
    have z2 := frozen_of_row w1 w.heap.size 2 _ _ hx
    have c0 : w1.cell? ⟨w.heap.size, 0, none⟩ = some (.int .i64 0) := by rw [cell_of_row _ _ _ _ _ _ hx]; rfl
    have c1 : w1.cell? ⟨w.heap.size, 1, none⟩ = some (.int .i64 0) := by rw [cell_of_row _ _ _ _ _ _ hx]; rfl
    have c2 : w1.cell? ⟨w.heap.size, 2, none⟩ = some (.int .i64 0) := by rw [cell_of_row _ _ _ _ _ _ hx]; rfl
    clear hb hx
    go_wp2_with fail
    obtain ⟨W, hW, hr, k0, k1, k2, hbW⟩ := set3 HX1.out (.int .i64 (zeroC).on) (.int .i64 (zeroC).off) (.int .i64 (zeroC).col)
    simp only [zeroC] at hW
    rw [hW]
    simp only [zeroC] at k0 k1 k2
    rw [HV.out]
    exact bodyPost_ret (v := chgE (zeroC, ec)) (by simp [results, Tryz.results53, go_sem, k0, k1, k2, chgE, chgVal, zeroC]) rfl ⟨rfl, HB.out.trans hbW⟩
end
end Go.Proofs.YtjohhahfpgfjdaaGreatDoor.S6
end
