/- The program's rising: a list in order, each number once. -/
import Derived.Test.YtjgcbobalmmjkaaLka
import Derived.Test.YtjgcbobalmmjkaaShelf
import Derived.Sort.OwnSortedInts
namespace Go.Proofs.Ytjgcbobalmmjkaa
open Go.RowKit Go.Sort Go.Lib
set_option linter.unusedVariables false

/-- What rising leaves: the numbers in order, each once, in the same block; no other old block has turned. -/
def RisIs (base : Nat) (v : Value) (zs : List Nat) (W : World) (e : Ending) (W' : World) : Prop :=
  ∃ v', e = .returned v' ∧ W'.ownsRow base 3 1 v' (rsg zs).length (numsV (rsg zs)) ∧ v'.ownBlock = v.ownBlock ∧ W.grownBy W' v.ownBlock
theorem rsg_nil : rsg [] = [] := rfl
theorem grownBy_t {a b c : World} {row : Option Nat} (h : a.grownBy b row) (k : b.grownBy c row) : a.grownBy c row :=
  ⟨k.os.trans h.os, k.tape.trans h.tape, k.output.trans h.output, Nat.le_trans h.size k.size, fun i hi hne => (k.block i (Nat.lt_of_lt_of_le hi h.size) hne).trans (h.block i hi hne)⟩
theorem take_put2 (cur : Array Value) (a b : List Int) (h : (a ++ b).length ≤ cur.size) : (putCells (Value.int .i64) 0 (a ++ b).toArray cur).toList.take a.length = a.map (Value.int .i64) := by
  have h1 := take_putCellsI cur (a ++ b) h
  have h2 := congrArg (List.take a.length) h1
  rw [List.take_take, show min a.length (a ++ b).length = a.length by simp] at h2
  rw [h2, List.map_append]
  rw [show a.length = (a.map (Value.int .i64)).length by simp]
  exact List.take_left

set_option maxRecDepth 100000 in
set_option maxHeartbeats 1000000 in
theorem rising_pro (base : Nat) (v : Value) (zs : List Nat) (W : World) (h : W.ownsRow base 3 1 v zs.length (numsV zs)) (hl : zs.length ≤ 1000000) :
    Calls Try.prog 22 #[v] W (RisIs base v zs W) := by
  rcases h.2 with ⟨rfl, h0⟩ | ⟨g, cap, cur, rfl, hb, hg, h1, h2, h3, h4⟩
  · have : zs = [] := List.eq_nil_of_length_eq_zero h0
    subst this
    have HS := Lib.hid (Try.slices_Sort_int_none none 0 W)
    have HC := Lib.hid (Try.slices_Compact_int_empty none 0 W)
    clear h
    go_enter Try.func22, Try.ntmps22
    go_wp2_with fail
    refine HS.out.mono ?_
    rintro e W1 ⟨rfl, hw⟩
    obtain rfl := hw
    go_wp2_with fail
    refine HC.out.mono ?_
    rintro e W2 ⟨rfl, hw⟩
    obtain rfl := hw
    go_wp2_with fail
    go_ret
    exact ⟨_, rfl, World.ownsRow_nil _ _ _ _, rfl, World.grownBy.refl _ _⟩
  · have hH : Holds (Value.int .i64) W g 0 (intsL zs).toArray := holds_of_blockI hg (by
      rw [numsV_ints, show (intsL zs).length = zs.length by simp [intsL]]; rw [Nat.mul_one] at h4; exact h4)
    have hgs := (Array.getElem?_eq_some_iff.1 hg).1
    have hil : (intsL zs).length = zs.length := by simp [intsL]
    have cS := Try.slices_Sort_int g 0 cap (intsL zs) W hH hgs (by rw [hil]; omega)
    rw [hil] at cS
    have HS := Lib.hid cS
    have hsl : ((intsL zs).mergeSort fun x y => decide (x ≤ y)).length = zs.length := by rw [List.length_mergeSort, hil]
    have hcl : (compact ((intsL zs).mergeSort fun x y => decide (x ≤ y))).length ≤ zs.length := by
      rw [rising_is]; have := rsg_len zs; simpa [intsL] using this
    have hri := rising_is zs
    obtain ⟨ss, hss⟩ : ∃ ss, ((intsL zs).mergeSort fun x y => decide (x ≤ y)) = ss := ⟨_, rfl⟩
    rw [hss] at HS hsl hcl hri
    have HF := Lib.hid (show ∀ n os, ((grow (putRow (Value.int .i64) (Sort.ahead W n) g 0 ss.toArray) os).heap[g]? = some (.cells (putCells (Value.int .i64) 0 ss.toArray cur) 3 (0, 0))) ∧ W.grownBy (grow (putRow (Value.int .i64) (Sort.ahead W n) g 0 ss.toArray) os) (some g) from fun n os => ⟨heap_sortedI _ hg, grownBy_sortedI _⟩)
    have HQ := Lib.hid hsl
    have HCL := Lib.hid hcl
    have HRI := Lib.hid hri
    have H1 := Lib.hid h1
    have H3 := Lib.hid h3
    have HLL := Lib.hid hl
    clear h hH cS hsl hcl hri hss h4 hil hg hl h3 h1
    obtain ⟨n, hn⟩ : ∃ n, zs.length = n := ⟨_, rfl⟩
    rw [hn] at HS HQ HCL H1 HLL ⊢
    go_enter Try.func22, Try.ntmps22
    go_wp2_with fail
    refine HS.out.mono ?_
    rintro e W1 ⟨rfl, m, os, hw⟩
    obtain ⟨hg1, hk1⟩ := HF.out m os
    rw [← hw] at hg1 hk1
    have hH1 : Holds (Value.int .i64) W1 g 0 ss.toArray := holds_of_blockI hg1 (take_putCellsI cur ss (by have := HQ.out; have := H1.out; have := H3.out; omega))
    have cC := Try.slices_Compact_int g 0 cap ss W1 hH1 (by have := HQ.out; have := HLL.out; omega) (by have := HQ.out; have := H1.out; omega)
    rw [show ss.length = n from HQ.out] at cC
    have HC := Lib.hid cC
    have HG1 := Lib.hid hg1
    have HK1 := Lib.hid hk1
    clear hH1 cC hg1 hk1 hw
    go_wp2_with fail
    refine HC.out.mono ?_
    rintro e W2 ⟨rfl, q, hw⟩
    have hw' : W2 = grow (putRow (Value.int .i64) (Sort.ahead W1 q) g 0 (compact ss ++ List.replicate (n - (compact ss).length) 0).toArray) #[] := by rw [hw, Sort.grow_empty]
    have hg2 : W2.heap[g]? = some (.cells (putCells (Value.int .i64) 0 (compact ss ++ List.replicate (n - (compact ss).length) 0).toArray (putCells (Value.int .i64) 0 ss.toArray cur)) 3 (0, 0)) := by rw [hw']; exact heap_sortedI _ HG1.out
    have hk2 : W1.grownBy W2 (some g) := by rw [hw']; exact grownBy_sortedI _
    have hcz : (compact ss).length = (rsg zs).length := by rw [HRI.out]; simp [intsL]
    have htk := take_put2 (putCells (Value.int .i64) 0 ss.toArray cur) (compact ss) (List.replicate (n - (compact ss).length) 0) (by
      have := HCL.out; have := H1.out; have := H3.out
      simp only [List.length_append, List.length_replicate, putCells, Array.size_mapIdx]; omega)
    have hfin : W2.ownsRow base 3 1 (.slice (some ⟨g, 0, none⟩) (compact ss).length cap) (rsg zs).length (numsV (rsg zs)) :=
      ⟨by rw [numsV_len, Nat.mul_one], .inr ⟨g, cap, _, by rw [hcz], hb, hg2, by have := HCL.out; have := H1.out; rw [← hcz]; omega, h2, by simp only [putCells, Array.size_mapIdx]; exact H3.out, by rw [Nat.mul_one, ← hcz, htk, HRI.out, numsV_ints]⟩⟩
    have HF2 := Lib.hid (show RisIs base (.slice (some ⟨g, 0, none⟩) n cap) zs W (.returned (.slice (some ⟨g, 0, none⟩) (compact ss).length cap)) W2 from ⟨_, rfl, hfin, rfl, grownBy_t HK1.out hk2⟩)
    clear hw hw' hg2 hk2 hcz htk hfin
    go_wp2_with fail
    go_ret
    exact HF2.out
end Go.Proofs.Ytjgcbobalmmjkaa
