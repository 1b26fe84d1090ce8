/- The program's sort of a table's numbers, called. -/
import Derived.Test.YtoeknophfcfahaaGreatDoorNsr
import Derived.Test.YtoeknophfcfahaaGreatDoorPost
namespace Go.Proofs.YtoeknophfcfahaaGreatDoor
open Go.RowKit Go.Maps Go.Sort
set_option linter.unusedVariables false

theorem sort_below {α : Type} [Inhabited α] (enc : α → Value) (w : World) (g off m : Nat) (dk : Array α) (os : Array Obj) {B : Nat} (hB : B ≤ w.heap.size) (hg : B ≤ g) : Below B w (sortWorld enc w g off m dk os) :=
  ⟨rfl, rfl, rfl, sort_size enc w g off m dk os, fun k hk => sort_block enc w g off m dk os (by omega) (by omega)⟩
theorem sort_row {α : Type} [Inhabited α] (enc : α → Value) (w : World) (g off m : Nat) (dk : Array α) (os : Array Obj) {cur : Array Value} {T : TypeId} (h : w.heap[g]? = some (.cells cur T (0, 0))) :
    (sortWorld enc w g off m dk os).heap[g]? = some (.cells (putCells enc off dk cur) T (0, 0)) := by
  unfold sortWorld
  have h1 : (putRow enc (Sort.ahead w m) g off dk).heap.size = w.heap.size := by simp [putRow, mapBlock, Sort.ahead]
  rw [heap_grow_old _ _ (by rw [h1]; exact (Array.getElem?_eq_some_iff.1 h).1)]
  simp only [putRow, mapBlock, Sort.ahead, Array.getElem?_modify, h]
  simp [onCells]
def encF {n : Nat} (x : Fin n) : Value := .int .i64 (x.val : Nat)

set_option maxRecDepth 100000 in
set_option maxHeartbeats 2000000 in
theorem sort_pro {l : List ByteArray} {w1 W : World} {v : Value} {ks ts : List ByteArray} {gv sv : Value} (h : NS w1 v ks ts (List.range l.length) gv sv W) (hv : RdT w1 v l) (hG : GoodTo l l.length) (hT : Tabs w1) (hl : l.length ≤ 1000) :
    Calls Tryz.prog 30 #[sv, .func (.func 31) #[] #[.pointer (some ⟨w1.heap.size + 1 + 1, 0, none⟩)]] W fun e W' => e = .returned (.tuple #[]) ∧ NS w1 v ks ts (srt l) gv sv W' := by
  rcases Nat.eq_zero_or_pos l.length with h0 | h0
  · have hl0 : l = [] := List.eq_nil_of_length_eq_zero h0
    subst hl0
    obtain ⟨p, cap, e⟩ := lenOf h.os
    rw [e]
    rw [e] at h
    exact (Tryz.slices_SortFunc_none (α := Unit) p cap _ W).mono fun _ _ ⟨he, hw⟩ => ⟨he, by rw [hw, show srt [] = List.range ([] : List ByteArray).length from List.eq_nil_of_length_eq_zero (by rw [srt_len]; rfl)]; exact h⟩
  · have hos := h.os
    have hlen : (List.range l.length).length = l.length := by simp
    rw [hlen] at hos
    rcases hos.2 with ⟨_, h1⟩ | ⟨g, cap, cur, rfl, hMg, hg, hnc, hcm, hcs, hct⟩
    · omega
    haveI : Inhabited (Fin l.length) := ⟨⟨0, h0⟩⟩
    have h3 := hT.lt
    have hne1 : w1.heap.size + 1 ≠ g := by
      rintro rfl
      exact own_not h.os h.cB (fun cur fr e => by cases e) rfl
    have hne2 : w1.heap.size + 1 + 1 ≠ g := by
      rintro rfl
      exact own_not h.os h.cT (fun cur fr e => by cases e) rfl
    have hne0 : w1.heap.size ≠ g := by
      obtain ⟨es, ck, hM⟩ := h.mapNot
      rintro rfl
      exact own_not h.os hM (fun cur fr e => by cases e) rfl
    have hgs := (Array.getElem?_eq_some_iff.1 hg).1
    have hz := h.size
    have hH : Holds (encF (n := l.length)) W g 0 (List.finRange l.length).toArray := by
      intro j hj
      have hj' : j < l.length := by simpa using hj
      refine ⟨?_, by simp [World.frozen?, hg]⟩
      have hc := (World.ownsRow.cellAt hos j (by omega))
      rw [Nat.zero_add, hc]
      simp [numsV, encF, hj']
    have hcmp : CmpLays1 Tryz.prog 31 #[.pointer (some ⟨w1.heap.size + 1 + 1, 0, none⟩)] (encF (n := l.length)) (cfL l) g 0 (List.finRange l.length).toArray.size W := by
      intro m os dk hs x y
      have hb : Below w1.heap.size w1 (sortWorld (encF (n := l.length)) W g 0 m dk os) := h.bl.trans (sort_below _ _ _ _ _ _ _ (by omega) hMg)
      refine (Calls.low (less_pro l (w1.heap.size + 1 + 1) (w1.heap.size + 1) x.val y.val v _ (sort_cell _ _ _ _ _ _ _ h.cT0 hne2) (sort_cell _ _ _ _ _ _ _ h.c0 hne1) (hv.below hb) (hT.below hb (Nat.le_refl _)) x.2 y.2 (hG.size x.2 x.2) (hG.size y.2 y.2))).mono ?_
      rintro e w' ⟨⟨rfl, hb'⟩, hd⟩
      exact ⟨rfl, grown_by hb' (hd (fun e => by cases e))⟩
    have hcon := Tryz.slices_SortFunc_total (encF (n := l.length)) (fun _ => rfl) (cfL l) (swo_of (cfL_ord l)) 31 #[.pointer (some ⟨w1.heap.size + 1 + 1, 0, none⟩)] g 0 cap (List.finRange l.length).toArray W
      (enters_of Tryz.func31 (by kernel_rfl) rfl) hcmp hH hgs (by simp; omega) (fun x y h1 h2 => by
        unfold ltOf at h1 h2
        have a1 := of_decide_eq_false h1
        have a2 := of_decide_eq_false h2
        have a3 := (cfL_ord l).anti x y
        have a4 : compare l[x] l[y] = 0 := by show cfL l x y = 0; omega
        exact Fin.ext (hG.inj x.2 y.2 x.2 y.2 (by rw [show l[x.val] = l[y.val] from compare_zero a4])))
    have hsz : (List.finRange l.length).toArray.size = l.length := by simp
    rw [hsz] at hcon
    refine hcon.mono ?_
    rintro e W' ⟨rfl, n, os, rfl⟩
    have hd : ((List.finRange l.length).toArray.toList.mergeSort fun x y => !(ltOf (cfL l)) y x).toArray = (srtF l).toArray := by simp [srtF]
    rw [hd]
    have hrow := sort_row (encF (n := l.length)) W g 0 n (srtF l).toArray os hg
    have hHo := holds_sortWorld (encF (n := l.length)) W g 0 n (List.finRange l.length).toArray (srtF l).toArray os hgs hH (by simp [srtF_len])
    have hb := sort_below (encF (n := l.length)) W g 0 n (srtF l).toArray os (B := w1.heap.size) (by omega) hMg
    have blk := fun c (hc : c < W.heap.size) (hne : c ≠ g) => sort_block (encF (n := l.length)) W g 0 n (srtF l).toArray os hc hne
    refine ⟨rfl, ⟨(blk _ (by omega) hne1).trans h.cB, (blk _ (by omega) hne2).trans h.cT, own_stays h.og fun c e => blk c (own_base h.og e).2 ?_, ⟨by rw [numsV_len, Nat.mul_one], .inr ⟨g, cap, _, by rw [srt_len], hMg, hrow, by rw [srt_len]; exact hnc, hcm, ?_, ?_⟩⟩, h.mp.block (blk _ (by omega) hne0), h.bl.trans hb⟩⟩
    · rintro rfl
      exact own_not h.og hg (fun cur fr e => by cases e) e
    · simp only [putCells, Array.size_mapIdx]; exact hcs
    · rw [Nat.mul_one]
      apply List.ext_getElem?
      intro j
      by_cases hj : j < l.length
      · have h5 := (hHo j (by simp [srtF_len]; exact hj)).1
        rw [Nat.zero_add] at h5
        have h5 : (putCells (encF (n := l.length)) 0 (srtF l).toArray cur)[j]? = some (encF (srtF l).toArray[j]!) := by simpa [World.cell?, hrow] using h5
        rw [List.getElem?_take, srt_len, if_pos hj, Array.getElem?_toList, h5]
        have hj' : j < (srtF l).length := by rw [srtF_len]; exact hj
        simp [numsV, srt, encF, hj']
      · rw [List.getElem?_eq_none (by rw [List.length_take, srt_len]; omega), List.getElem?_eq_none (by rw [numsV_len, srt_len]; omega)]
end Go.Proofs.YtoeknophfcfahaaGreatDoor
