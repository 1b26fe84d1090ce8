/- Layer 11: operations that came in. -/
import Derived.Test.YtdagombmgcnofaaGreatDoorJc
import Derived.Test.YtdagombmgcnofaaGreatDoorRows
import Derived.Deep.Strs
import Derived.Deep.Slices
import Derived.Lib.SmallJoins
namespace Go.Proofs.YtdagombmgcnofaaGreatDoor.Ir
open Go.Deep Go.ChangeShapes Go.WideShapes Go.RowKit Go.Maps Go.Proofs.YtdagombmgcnofaaGreatDoor
set_option linter.unusedVariables false
set_option maxRecDepth 100000
theorem choose_n {α : Type} {n : Nat} {R : Nat → α → Prop} (z : α) (h : ∀ i, i < n → ∃ a, R i a) : ∃ f : Nat → α, ∀ i, i < n → R i (f i) := by
  have : ∀ i, ∃ a, i < n → R i a := by
    intro i
    by_cases hi : i < n
    · obtain ⟨a, ha⟩ := h i hi
      exact ⟨a, fun _ => ha⟩
    · exact ⟨z, fun h => absurd h hi⟩
  exact ⟨fun i => Classical.choose (this i), fun i hi => Classical.choose_spec (this i) hi⟩
theorem kI : Tryz.prog.cellsOf 3 = 1 := by kernel_rfl
theorem kS : Tryz.prog.cellsOf 9 = 1 := by kernel_rfl
theorem kK : Tryz.prog.cellsOf 79 = 1 := by kernel_rfl
theorem kZ : Tryz.prog.cellsOf 52 = 1 := by kernel_rfl
theorem kO : Tryz.prog.cellsOf 81 = 4 := by kernel_rfl
def LenD {H : Type} (d : DataW H) (n : Nat) : Prop := d = .nil ∧ n = 0 ∨ ∃ es sp, d = .slice es sp ∧ es.length = n
theorem bulk_posL {H : Type} : ∀ d : DataW H, 1 ≤ Rows.uptoBulk d := by
  intro d
  cases d with
  | lit l => cases l <;> simp [Rows.uptoBulk]
  | _ => simp [Rows.uptoBulk]
theorem bulk_allL {H : Type} : ∀ ds : List (DataW H), ds.length ≤ Rows.uptoBulkAll ds
  | [] => by simp [Rows.uptoBulkAll]
  | d :: r => by
    have := bulk_posL d
    have := bulk_allL r
    simp only [Rows.uptoBulkAll, List.length_cons]
    omega
theorem bulk_memL {H : Type} : ∀ (ds : List (DataW H)) (d : DataW H), d ∈ ds → Rows.uptoBulk d ≤ Rows.uptoBulkAll ds
  | [], d, h => by cases h
  | x :: r, d, h => by
    simp only [Rows.uptoBulkAll]
    rcases List.mem_cons.1 h with rfl | h
    · omega
    · have := bulk_memL r d h
      omega
theorem len_bulkL {H : Type} {d : DataW H} {n : Nat} (h : LenD d n) : n ≤ Rows.uptoBulk d := by
  rcases h with ⟨rfl, rfl⟩ | ⟨es, sp, rfl, he⟩
  · omega
  · have := bulk_allL es
    simp only [Rows.uptoBulk]
    omega
theorem bulk_sumO {H : Type} (f : Nat → Opr × Value) (D : Nat → DataW H) : ∀ is : List Nat, (∀ i ∈ is, (f i).1.t.size ≤ Rows.uptoBulk (D i)) → sumT (is.map fun i => (f i).1) ≤ Rows.uptoBulkAll (is.map D)
  | [], _ => by simp [Rows.uptoBulkAll, sumT]
  | i :: r, h => by
    have h1 := bulk_sumO f D r fun j hj => h j (List.mem_cons_of_mem _ hj)
    have h2 := h i (by simp)
    simp only [List.map_cons, sumT, Rows.uptoBulkAll]
    omega
section
variable {H : Type} {enc : TypeId × Value → H} {W : World}
theorem add_plain' (b o i : Nat) : (⟨b, o, none⟩ : Addr).add i = ⟨b, o + i, none⟩ := Addr.add_lit _ _ _
theorem ints_read {v : Value} {d : DataW H} {p : List MemPlace} (h : DataW.Trod enc Tryz.prog W 0 (fun _ => true) true 52 v d p) (hv : ∃ pa len cap, v = .slice pa len cap) :
    ∃ xs : List Int, RdZ (fun _ => True) W v xs ∧ LenD d xs.length := by
  obtain ⟨pa, len, cap, rfl⟩ := hv
  obtain ⟨n, hn⟩ := h
  rcases open_slice1 Tryz.underlying52 kI hn with ⟨h3, h4⟩ | ⟨a, l, c, m, n', V, D, Pl, h3, _, hlc, hcm, hm, hx, hall⟩
  · simp [Value.cells] at h3
    obtain ⟨rfl, rfl, rfl⟩ := h3
    cases h4
    exact ⟨[], ⟨none, 0, rfl, Nat.le_refl _, by decide, fun j hj => absurd hj (by simp)⟩, .inl ⟨rfl, rfl⟩⟩
  · simp [Value.cells] at h3
    obtain ⟨rfl, rfl, rfl⟩ := h3
    have hmc : m = cap := by simpa using hm
    subst hmc
    cases hx
    obtain ⟨f, hf⟩ := choose_n (R := fun i (z : Int) => a = ⟨a.block, a.off, none⟩ ∧ W.cell? ⟨a.block, a.off + i, none⟩ = some (.int .i64 z)) 0 (fun i hi => by
      obtain ⟨h1, h2⟩ := hall i (show i < m from Nat.lt_of_lt_of_le (show i < len from hi) hlc)
      obtain ⟨z, e, _, m0⟩ := DataW.trod_int Tryz.underlying3 h2
      simp at e
      rw [e] at h1
      obtain ⟨b, off, spot⟩ := a
      have hspot : spot = none := by
        have := (hall 0 (Nat.lt_of_lt_of_le (show 0 < len by omega) hlc)).1
        simpa [Addr.add] using World.cell?_spot this
      subst hspot
      rw [add_plain'] at h1
      exact ⟨z, rfl, h1⟩)
    refine ⟨(List.range len).map f, ⟨some a, m, by simp, by simpa using hlc, hcm, fun i hi => ?_⟩, .inr ⟨_, _, rfl, by simp⟩⟩
    have hi' : i < len := by simpa using hi
    obtain ⟨e, hc⟩ := hf i hi'
    refine ⟨a.block, a.off, by rw [← e], trivial, ?_⟩
    simp only [List.getElem_map, List.getElem_range]
    exact hc
theorem slice_cell {t e : TypeId} {n : Nat} {c : Value} {x : DataW H × List MemPlace} (ht : Tryz.prog.underlying t = some (.slice e)) (h : DataW.trod enc Tryz.prog W 0 (fun _ => true) true n t [c] = some x) : ∃ p l k, c = .slice p l k := by
  rcases open_slice ht h with ⟨h3, _⟩ | ⟨a, l, c', m, n', D, Pl, h3, _⟩
  · simp at h3; exact ⟨_, _, _, h3⟩
  · simp at h3; exact ⟨_, _, _, h3⟩
theorem op_cells {n : Nat} {cs : List Value} {x : DataW H × List MemPlace} (h : DataW.trod enc Tryz.prog W 0 (fun _ => true) true n 81 cs = some x) :
    ∃ r : Opr × Value, cs = oprRow r ∧ RdZ (fun _ => True) W r.2 r.1.w ∧ r.1.t.size ≤ Rows.uptoBulk x.1 ∧ r.1.w.length ≤ Rows.uptoBulk x.1 := by
  obtain ⟨xs, m, _, rfl, hl, hlen, hf⟩ := DataW.trod_struct Tryz.underlying81 h
  have hl8 : cs.length = 4 := hl.trans kO
  have hl9 : xs.length = 4 := hlen
  match cs, hl8, xs, hl9 with
  | [c0, c1, c2, c3], _, [y0, y1, y2, y3], _ =>
    have h0 := hf 0 _ rfl
    have h1 := hf 1 _ rfl
    have h2 := hf 2 _ rfl
    have h3 := hf 3 _ rfl
    simp [kI, kS, kK, kZ] at h0 h1 h2 h3
    obtain ⟨z0, e0, _⟩ := DataW.trod_int Tryz.underlying79 h0
    obtain ⟨z1, e1, _⟩ := DataW.trod_int Tryz.underlying3 h1
    obtain ⟨s2, e2, d2, _⟩ := DataW.trod_string Tryz.underlying9 h2
    obtain ⟨p3, l3, k3, e3⟩ := slice_cell Tryz.underlying52 h3
    simp at e0 e1 e2
    subst e0 e1 e2 e3
    obtain ⟨zs, hr, hd⟩ := ints_read (enc := enc) (W := W) (v := .slice p3 l3 k3) (d := y3.1) (p := y3.2) ⟨m, h3⟩ ⟨_, _, _, rfl⟩
    have hb := len_bulkL hd
    subst d2
    refine ⟨(⟨z0, z1, s2, zs⟩, .slice p3 l3 k3), rfl, hr, ?_, ?_⟩
    · simp only [List.map_cons, List.map_nil, Rows.uptoBulk, Rows.uptoBulkAll]
      rw [toList_size]
      omega
    · simp only [List.map_cons, List.map_nil, Rows.uptoBulk, Rows.uptoBulkAll]
      omega
def BulkO (d : DataW H) (l : List Opr) : Prop := l.length ≤ Rows.uptoBulk d ∧ sumT l ≤ Rows.uptoBulk d ∧ ∀ x ∈ l, x.w.length ≤ Rows.uptoBulk d
theorem ops_read {v : Value} {d : DataW H} {p : List MemPlace} (h : DataW.Trod enc Tryz.prog W 0 (fun _ => true) true 44 v d p) (hv : ∃ pa len cap, v = .slice pa len cap) :
    ∃ l : List Opr, RdO (fun _ => True) W v l ∧ BulkO d l := by
  obtain ⟨pa, len, cap, rfl⟩ := hv
  obtain ⟨n, hn⟩ := h
  rcases open_slice Tryz.underlying44 hn with ⟨h3, h4⟩ | ⟨a, l, c, m, n', D, Pl, h3, _, hlc, hcm, hm, hx, hall⟩
  · simp [Value.cells] at h3
    obtain ⟨rfl, rfl, rfl⟩ := h3
    cases h4
    exact ⟨[], ⟨none, 0, rfl, Nat.le_refl _, by decide, fun j hj => absurd hj (by simp)⟩, by simp, by simp [sumT], by simp⟩
  · simp [Value.cells] at h3
    obtain ⟨rfl, rfl, rfl⟩ := h3
    have hmc : m = cap := by simpa using hm
    subst hmc
    cases hx
    obtain ⟨f, hf⟩ := choose_n (R := fun i (r : Opr × Value) => RdZ (fun _ => True) W r.2 r.1.w ∧ r.1.t.size ≤ Rows.uptoBulk (D i) ∧ r.1.w.length ≤ Rows.uptoBulk (D i) ∧ ∃ spot, a = ⟨a.block, a.off, spot⟩ ∧ spot = none ∧ ∀ k u, (oprRow r)[k]? = some u → W.cell? ⟨a.block, a.off + i * 4 + k, none⟩ = some u) (⟨0, 0, ByteArray.empty, []⟩, .slice none 0 0) (fun i hi => by
      obtain ⟨cs', h1, h2⟩ := hall i (show i < m from Nat.lt_of_lt_of_le (show i < len from hi) hlc)
      obtain ⟨r, rfl, hr, hs, hw⟩ := op_cells h2
      rw [kO] at h1
      obtain ⟨_, _, hcell⟩ := World.cells?_some h1
      obtain ⟨b, off, spot⟩ := a
      have hspot : spot = none := by
        obtain ⟨cs0, h01, h02⟩ := hall 0 (Nat.lt_of_lt_of_le (show 0 < len by omega) hlc)
        obtain ⟨r0, rfl, _⟩ := op_cells h02
        rw [kO] at h01
        obtain ⟨_, _, hc0⟩ := World.cells?_some h01
        have := hc0 0 (by omega)
        rw [show (oprRow r0)[0]? = some (.int .i64 r0.1.k) from rfl] at this
        simpa [Addr.add] using World.cell?_spot this
      subst hspot
      refine ⟨r, hr, hs, hw, none, rfl, rfl, fun k u hk => ?_⟩
      have hk5 : k < 4 := by
        rcases Nat.lt_or_ge k 4 with h | h
        · exact h
        · rw [List.getElem?_eq_none (by simpa [oprRow] using h)] at hk; cases hk
      have := hcell k hk5
      rw [add_add, add_plain'] at this
      rw [← hk, ← this, Nat.add_assoc])
    have hbd : Rows.uptoBulkAll ((List.range len).map D) ≤ Rows.uptoBulk (DataW.slice ((List.range len).map D) ((List.range (m - len)).map fun j => D (len + j))) := by
      simp only [Rows.uptoBulk]; omega
    refine ⟨(List.range len).map fun i => (f i).1, ⟨some a, m, by simp, by simpa using hlc, hcm, fun i hi => ?_⟩, ?_, ?_, fun x hx => ?_⟩
    · have hi' : i < len := by simpa using hi
      obtain ⟨hr, _, _, spot, e, e2, hc⟩ := hf i hi'
      subst e2
      refine ⟨a.block, a.off, by rw [← e], trivial, ?_⟩
      simp only [List.getElem_map, List.getElem_range]
      exact ⟨hc 0 _ rfl, hc 1 _ rfl, hc 2 _ rfl, _, hc 3 _ rfl, hr⟩
    · have := bulk_allL ((List.range len).map D)
      rw [List.length_map] at this ⊢
      omega
    · exact Nat.le_trans (bulk_sumO f D (List.range len) fun i hi => (hf i (List.mem_range.1 hi)).2.1) hbd
    · obtain ⟨i, hi, rfl⟩ := List.mem_map.1 hx
      exact Nat.le_trans (Nat.le_trans (hf i (List.mem_range.1 hi)).2.2.1 (bulk_memL _ _ (List.mem_map.2 ⟨i, hi, rfl⟩))) hbd
end
theorem ops_bulk {H : Type} {d : DataW H} {l : List Opr} {n : Nat} (h : BulkO d l) (hb : Rows.uptoBulk d ≤ n) : l.length ≤ n ∧ sumT l ≤ n ∧ ∀ x ∈ l, x.w.length ≤ n := ⟨Nat.le_trans h.1 hb, Nat.le_trans h.2.1 hb, fun x hx => Nat.le_trans (h.2.2 x hx) hb⟩
end Go.Proofs.YtdagombmgcnofaaGreatDoor.Ir
