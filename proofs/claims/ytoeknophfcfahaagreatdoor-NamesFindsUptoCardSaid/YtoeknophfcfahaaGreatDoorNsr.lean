/- The program's sort of a table's numbers. -/
import Derived.Test.YtoeknophfcfahaaGreatDoorNn
import Derived.Test.YtoeknophfcfahaaGreatDoorMono
import Derived.Lib.QuietBelow
import Derived.Shelf.RegionOpenPlain
namespace Go.Proofs.YtoeknophfcfahaaGreatDoor
open Go.RowKit Go.Maps Go.Sort
set_option linter.unusedVariables false

/-- How two numbers of a list of names compare. -/
def cfL (l : List ByteArray) (x y : Fin l.length) : Int := compare l[x] l[y]
theorem cfL_ord (l : List ByteArray) : Ord3 (cfL l) := compare_ord.on fun x : Fin l.length => l[x]
theorem swo_of {α : Type} {f : α → α → Int} (h : Ord3 f) : SWO (ltOf f) where
  irrefl x := by unfold ltOf; rw [h.self]; rfl
  trans x y z h1 h2 := by
    unfold ltOf at *
    simp only [decide_eq_true_eq] at *
    have h3 := h.trans x y z (by omega) (by omega)
    rcases Int.lt_or_eq_of_le h3 with h4 | h4
    · exact h4
    · have h5 := h.congr h4 y
      have h6 := h.anti y z
      omega
  ntrans x y z h1 h2 := by
    unfold ltOf at *
    simp only [decide_eq_false_iff_not] at *
    have a1 := h.anti x y
    have a2 := h.anti y z
    have a3 := h.anti x z
    have h3 := h.trans z y x (by omega) (by omega)
    omega
def srtF (l : List ByteArray) : List (Fin l.length) := (List.finRange l.length).mergeSort fun x y => !(ltOf (cfL l)) y x
/-- The numbers of the names, in their order. -/
def srt (l : List ByteArray) : List Nat := (srtF l).map Fin.val
theorem srtF_perm (l : List ByteArray) : (srtF l).Perm (List.finRange l.length) := List.mergeSort_perm _ _
theorem srtF_len (l : List ByteArray) : (srtF l).length = l.length := by rw [(srtF_perm l).length_eq]; simp
theorem srt_len (l : List ByteArray) : (srt l).length = l.length := by unfold srt; rw [List.length_map, srtF_len]
theorem srt_perm (l : List ByteArray) : (srt l).Perm (List.range l.length) := by
  have h := (srtF_perm l).map Fin.val
  have e : (List.finRange l.length).map Fin.val = List.range l.length := List.ext_getElem (by simp) (by simp)
  rwa [e] at h
theorem srt_lt {l : List ByteArray} {i : Nat} (h : i ∈ srt l) : i < l.length := by
  unfold srt at h
  obtain ⟨x, _, rfl⟩ := List.mem_map.1 h
  exact x.2
theorem compare_neg {a b : ByteArray} (h : ¬ compare b a < 0) (hne : a ≠ b) : compare a b = -1 := by
  have h1 := compare_ord.anti a b
  rcases compare_ord.rng a b with h2 | h2 | h2
  · exact h2
  · exact absurd (compare_zero h2) hne
  · omega
theorem srtF_le (l : List ByteArray) : (srtF l).Pairwise fun x y => ¬ compare l[y] l[x] < 0 := by
  have hO := swo_of (cfL_ord l)
  have h := List.pairwise_mergeSort (le := fun x y => !(ltOf (cfL l)) y x) (fun x y z h1 h2 => by
    simp only [Bool.not_eq_true'] at *
    exact hO.ntrans z y x h2 h1) (fun x y => by
    cases e : ltOf (cfL l) y x
    · rfl
    · cases e2 : ltOf (cfL l) x y
      · simp
      · exact absurd (hO.trans _ _ _ e e2) (by rw [hO.irrefl]; simp)) (List.finRange l.length)
  refine h.imp fun {x y} hxy => ?_
  simp only [ltOf, cfL, Bool.not_eq_true'] at hxy
  exact of_decide_eq_false hxy

/-- A block but the sorted one, in a world of the sort's. -/
theorem sort_block {α : Type} [Inhabited α] (enc : α → Value) (w : World) (g off m : Nat) (dk : Array α) (os : Array Obj) {c : Nat} (hc : c < w.heap.size) (hne : c ≠ g) : (sortWorld enc w g off m dk os).heap[c]? = w.heap[c]? := by
  unfold sortWorld
  have h1 : (putRow enc (Sort.ahead w m) g off dk).heap.size = w.heap.size := by simp [putRow, mapBlock, Sort.ahead]
  rw [heap_grow_old _ _ (by rw [h1]; exact hc)]
  simp only [putRow, mapBlock, Sort.ahead, Array.getElem?_modify]
  rw [if_neg (fun e => hne e.symm)]
theorem sort_cell {α : Type} [Inhabited α] (enc : α → Value) (w : World) (g off m : Nat) (dk : Array α) (os : Array Obj) {a : Addr} {v : Value} (hc : w.cell? a = some v) (hne : a.block ≠ g) : (sortWorld enc w g off m dk os).cell? a = some v :=
  (World.cell?_of_block (sort_block enc w g off m dk os (block_lt_of_cell hc) hne)).trans hc
theorem sort_size {α : Type} [Inhabited α] (enc : α → Value) (w : World) (g off m : Nat) (dk : Array α) (os : Array Obj) : w.heap.size ≤ (sortWorld enc w g off m dk os).heap.size := by
  unfold sortWorld
  rw [size_grow]
  have h1 : (putRow enc (Sort.ahead w m) g off dk).heap.size = w.heap.size := by simp [putRow, mapBlock, Sort.ahead]
  omega
/-- What leaves no old block turned and takes back no draw is so many draws and new blocks. -/
theorem grown_by {w w' : World} (h : Below w.heap.size w w') (hd : w.drawn ≤ w'.drawn) : ∃ q os, w' = grow (w.drewN q) os := by
  obtain ⟨⟨d, os⟩, e⟩ := regrown_of_below h
  have e2 : w'.drawn = d := by rw [e]; rfl
  refine ⟨d - w.drawn, os, ?_⟩
  rw [e]
  unfold redrawn World.drewN
  rw [show w.drawn + (d - w.drawn) = d by omega]

set_option maxRecDepth 100000 in
set_option maxHeartbeats 2000000 in
theorem less_pro (l : List ByteArray) (Tb B x y : Nat) (nv : Value) (W : World) (cT : W.cell? ⟨Tb, 0, none⟩ = some (.pointer (some ⟨B, 0, none⟩))) (c0 : W.cell? ⟨B, 0, none⟩ = some nv) (hn : RdT W nv l) (hT : Tabs W)
    (hx : x < l.length) (hy : y < l.length) (sx : l[x].size ≤ 64) (sy : l[y].size ≤ 64) :
    Calls Tryz.prog 31 #[.int .i64 x, .int .i64 y, .pointer (some ⟨Tb, 0, none⟩)] W (Says (.int .i64 (compare l[x] l[y])) W) := by
  obtain ⟨pa, cap, rfl, h1, h2⟩ := hn.form
  obtain ⟨b, off, rfl, cx⟩ := hn.cell hx
  obtain ⟨b', off', e, cy⟩ := hn.cell hy
  cases e
  obtain ⟨a, ha⟩ : ∃ a, l[x] = a := ⟨_, rfl⟩
  obtain ⟨c, hc⟩ : ∃ c, l[y] = c := ⟨_, rfl⟩
  rw [ha] at cx sx ⊢
  rw [hc] at cy sy ⊢
  have k0 := cell_regrown cT
  have k1 := cell_regrown c0
  have k2 := cell_regrown cx
  have k3 := cell_regrown cy
  have cQ : ∀ d os, Calls Tryz.prog 32 #[.string a, .string c] (grow (redrawn W d) os) fun e w'' => e = .returned (.int .i64 (compare a c)) ∧ ∃ p : Regrown, w'' = grow (redrawn W p.d) p.os :=
    fun d os => Calls.regrown_of (compare_pro a c _ (by omega) (by omega) (hT.below (below_regrown W d os) (Nat.le_refl _)))
  have hxi : (x : Int) < l.length := by omega
  have hyi : (y : Int) < l.length := by omega
  have mixed : Tryz.prog.follows .mixedOrders = true := by kernel_rfl
  obtain ⟨n, hn'⟩ : ∃ n, l.length = n := ⟨_, rfl⟩
  rw [hn'] at k1 hxi hyi
  clear hn hT h1 h2 ha hc cT c0 cx cy sx sy hn'
  go_enter Tryz.func31, Tryz.ntmps31
  go_wp2_with fail
  refine wp_region_quiet_below (by assumption) (by kernel_rfl) ?_
  repeat (quiet_step (first | exact cQ _ _))
  refine wpQuiet_nil ?_
  intro _ hw'
  obtain ⟨⟨dq, osq⟩, hw''⟩ := hw'
  subst hw''
  go_wp2_with fail
  go_ret
  exact ⟨rfl, below_regrown W dq osq⟩
end Go.Proofs.YtoeknophfcfahaaGreatDoor
