/- What came in: a change, a look, a style by value; a sheet; names. -/
import Derived.Test.YtceanagnkcejgaaGreatDoorNst
import Derived.Test.YtceanagnkcejgaaGreatDoorRows
import Derived.Deep.Strs
import Derived.Deep.Slices
import Derived.Lib.SmallJoins
namespace Go.Proofs.YtceanagnkcejgaaGreatDoor
open Go.Deep Go.ChangeShapes Go.WideShapes Go.RowKit
set_option linter.unusedVariables false
set_option maxRecDepth 100000
section
variable {H : Type} {enc : TypeId × Value → H} {W : World}
theorem in64_wf {z : Int} (w : (Lit.int .i64 z).wf = true) : In64 z := by unfold In64; simpa [Lit.wf, IntKind.min, IntKind.max, IntKind.signed, IntKind.bits] using w
theorem kI : Tryz.prog.cellsOf 3 = 1 := by kernel_rfl
theorem kS : Tryz.prog.cellsOf 9 = 1 := by kernel_rfl
theorem kC : Tryz.prog.cellsOf 27 = 3 := by kernel_rfl
theorem kL : Tryz.prog.cellsOf 46 = 2 := by kernel_rfl
theorem kY : Tryz.prog.cellsOf 29 = 5 := by kernel_rfl
theorem bs_data (s : ByteArray) : bs s.data.toList = s := by cases s; simp [bs]
theorem chg_cells {n : Nat} {cs : List Value} {x : DataW H × List MemPlace} (h : DataW.trod enc Tryz.prog W 0 (fun _ => true) true n 27 cs = some x) :
    ∃ c : Chg, cs = [.int .i64 c.on, .int .i64 c.off, .int .i64 c.col] ∧ In64 c.on ∧ In64 c.off ∧ In64 c.col := by
  obtain ⟨y0, y1, y2, n, rfl, hl, h0, h1, h2⟩ := trod_struct3 Tryz.underlying27 h
  have hl3 : cs.length = 3 := hl.trans kC
  match cs, hl3 with
  | [c0, c1, c2], _ =>
    simp [kI] at h0 h1 h2
    obtain ⟨z0, e0, _, w0⟩ := DataW.trod_int Tryz.underlying3 h0
    obtain ⟨z1, e1, _, w1⟩ := DataW.trod_int Tryz.underlying3 h1
    obtain ⟨z2, e2, _, w2⟩ := DataW.trod_int Tryz.underlying3 h2
    simp at e0 e1 e2
    subst e0 e1 e2
    exact ⟨⟨z0, z1, z2⟩, rfl, in64_wf w0, in64_wf w1, in64_wf w2⟩
theorem arr_of {cs : Array Value} {l : List Value} (h : (Value.agg cs).cells.toList = l) : Value.agg cs = .agg l.toArray := by
  subst h; simp [Value.cells]
theorem chg_read {base : Nat} {v : Value} {d : DataW H} {p : List MemPlace} (h : DataW.Trod enc Tryz.prog W 0 (fun _ => true) true 27 v d p) (hv : Value.okWide Tryz.prog W .any base 27 v) :
    ∃ c : Chg, v = chgVal c ∧ In64 c.on ∧ In64 c.off ∧ In64 c.col := by
  obtain ⟨cs, rfl, _⟩ := okWide_struct Tryz.underlying27 hv
  obtain ⟨n, hn⟩ := h
  obtain ⟨c, e, h1⟩ := chg_cells hn
  exact ⟨c, arr_of e, h1⟩
theorem lk_read {base : Nat} {v : Value} {d : DataW H} {p : List MemPlace} (h : DataW.Trod enc Tryz.prog W 0 (fun _ => true) true 46 v d p) (hv : Value.okWide Tryz.prog W .any base 46 v) :
    ∃ c : Lk, v = lkVal c ∧ In64 c.att ∧ In64 c.col := by
  obtain ⟨cs, rfl, _⟩ := okWide_struct Tryz.underlying46 hv
  obtain ⟨n, hn⟩ := h
  obtain ⟨y0, y1, n, _, hl, h0, h1⟩ := trod_struct2 Tryz.underlying46 hn
  have hl3 : (Value.agg cs).cells.toList.length = 2 := hl.trans kL
  match hc : (Value.agg cs).cells.toList, hl3 with
  | [c0, c1], _ =>
    rw [hc] at h0 h1
    simp [kI] at h0 h1
    obtain ⟨z0, e0, _, w0⟩ := DataW.trod_int Tryz.underlying3 h0
    obtain ⟨z1, e1, _, w1⟩ := DataW.trod_int Tryz.underlying3 h1
    simp at e0 e1
    subst e0 e1
    exact ⟨⟨z0, z1⟩, arr_of hc, in64_wf w0, in64_wf w1⟩
theorem sty_cells {n : Nat} {cs : List Value} {x : DataW H × List MemPlace} (h : DataW.trod enc Tryz.prog W 0 (fun _ => true) true n 29 cs = some x) :
    ∃ s : Sty, cs = styRow s ∧ FitS s := by
  obtain ⟨y0, y1, y2, n, rfl, hl, h0, h1, h2⟩ := trod_struct3 Tryz.underlying29 h
  have hl3 : cs.length = 5 := hl.trans kY
  match cs, hl3 with
  | [c0, c1, c2, c3, c4], _ =>
    simp [kS, kC] at h0 h1 h2
    obtain ⟨s0, e0, _, m0⟩ := DataW.trod_string Tryz.underlying9 h0
    obtain ⟨s1, e1, _, m1⟩ := DataW.trod_string Tryz.underlying9 h1
    obtain ⟨c, e2, w0, w1, w2⟩ := chg_cells h2
    simp at e0 e1 e2
    obtain ⟨rfl, rfl, rfl⟩ := e2
    subst e0 e1
    have l0 : s0.data.toList.length = s0.size := by rw [Array.length_toList]; rfl
    have l1 : s1.data.toList.length = s1.size := by rw [Array.length_toList]; rfl
    unfold maxLen at m0 m1
    refine ⟨⟨s0.data.toList, s1.data.toList, c⟩, by simp [styRow, bs_data], by show s0.data.toList.length ≤ 9223372036854775807; omega, by show s1.data.toList.length ≤ 9223372036854775807; omega, w0, w1, w2⟩
theorem sty_read {base : Nat} {v : Value} {d : DataW H} {p : List MemPlace} (h : DataW.Trod enc Tryz.prog W 0 (fun _ => true) true 29 v d p) (hv : Value.okWide Tryz.prog W .any base 29 v) :
    ∃ s : Sty, v = styVal s ∧ FitS s := by
  obtain ⟨cs, rfl, _⟩ := okWide_struct Tryz.underlying29 hv
  obtain ⟨n, hn⟩ := h
  obtain ⟨s, e, h1⟩ := sty_cells hn
  exact ⟨s, arr_of e, h1⟩
theorem choose_n {α : Type} {n : Nat} {R : Nat → α → Prop} (z : α) (h : ∀ i, i < n → ∃ a, R i a) : ∃ f : Nat → α, ∀ i, i < n → R i (f i) := by
  have : ∀ i, ∃ a, i < n → R i a := by
    intro i
    by_cases hi : i < n
    · obtain ⟨a, ha⟩ := h i hi
      exact ⟨a, fun _ => ha⟩
    · exact ⟨z, fun h => absurd h hi⟩
  exact ⟨fun i => Classical.choose (this i), fun i hi => Classical.choose_spec (this i) hi⟩
/-- How a list's reading tells its length. -/
def LenD {H : Type} (d : DataW H) (n : Nat) : Prop := d = .nil ∧ n = 0 ∨ ∃ es sp, d = .slice es sp ∧ es.length = n
theorem sheet_read {v : Value} {d : DataW H} {p : List MemPlace} (h : DataW.Trod enc Tryz.prog W 0 (fun _ => true) true 22 v d p) (hv : ∃ pa len cap, v = .slice pa len cap) :
    ∃ l : List Sty, (Sh W v l ∧ Fit l) ∧ LenD d l.length := by
  obtain ⟨pa, len, cap, rfl⟩ := hv
  obtain ⟨n, hn⟩ := h
  rcases open_slice Tryz.underlying22 hn with ⟨h3, h4⟩ | ⟨a, l, c, m, n', D, Pl, h3, _, hlc, hcm, hm, hx, hall⟩
  · simp [Value.cells] at h3
    obtain ⟨rfl, rfl, rfl⟩ := h3
    cases h4
    exact ⟨[], ⟨⟨none, 0, rfl, Nat.le_refl _, by decide, fun j hj => absurd hj (by simp)⟩, fun s hs => by cases hs⟩, .inl ⟨rfl, rfl⟩⟩
  · simp [Value.cells] at h3
    obtain ⟨rfl, rfl, rfl⟩ := h3
    have hmc : m = cap := by simpa using hm
    subst hmc
    cases hx
    obtain ⟨f, hf⟩ := choose_n (R := fun i (s : Sty) => FitS s ∧ ∃ spot, a = ⟨a.block, a.off, spot⟩ ∧ spot = none ∧ ∀ k u, (styRow s)[k]? = some u → W.cell? ⟨a.block, a.off + i * 5 + k, none⟩ = some u) zeroS (fun i hi => by
      obtain ⟨cs', h1, h2⟩ := hall i (show i < m from Nat.lt_of_lt_of_le (show i < len from hi) hlc)
      obtain ⟨s, rfl, hs⟩ := sty_cells h2
      rw [kY] at h1
      obtain ⟨_, _, hcell⟩ := World.cells?_some h1
      obtain ⟨b, off, spot⟩ := a
      have hspot : spot = none := by
        obtain ⟨cs0, h01, h02⟩ := hall 0 (Nat.lt_of_lt_of_le (show 0 < len by omega) hlc)
        obtain ⟨s0, rfl, _⟩ := sty_cells h02
        rw [kY] at h01
        obtain ⟨_, _, hc0⟩ := World.cells?_some h01
        have := hc0 0 (by omega)
        rw [show (styRow s0)[0]? = some (.string (bs s0.nm)) from rfl] at this
        simpa [Addr.add] using World.cell?_spot this
      subst hspot
      refine ⟨s, hs, none, rfl, rfl, fun k u hk => ?_⟩
      have hk5 : k < 5 := by
        rcases Nat.lt_or_ge k 5 with h | h
        · exact h
        · rw [List.getElem?_eq_none (by simpa [styRow] using h)] at hk; cases hk
      have := hcell k hk5
      rw [add_add, add_plain] at this
      rw [← hk, ← this, Nat.add_assoc])
    refine ⟨(List.range len).map f, ⟨⟨some a, m, by simp, by simpa using hlc, hcm, fun i hi => ?_⟩, fun s hs => ?_⟩, .inr ⟨_, _, rfl, by simp⟩⟩
    · have hi' : i < len := by simpa using hi
      obtain ⟨_, spot, e, e2, hc⟩ := hf i hi'
      subst e2
      refine ⟨a.block, a.off, by rw [← e], ?_⟩
      simp only [List.getElem_map, List.getElem_range]
      exact hc
    · obtain ⟨i, hi, rfl⟩ := List.mem_map.1 hs
      exact (hf i (by simpa using hi)).1
theorem names_read {v : Value} {d : DataW H} {p : List MemPlace} (h : DataW.Trod enc Tryz.prog W 0 (fun _ => true) true 39 v d p) (hv : ∃ pa len cap, v = .slice pa len cap) :
    ∃ xs : List (List UInt8), (RdS W v xs ∧ ∀ x ∈ xs, x.length ≤ maxLen) ∧ LenD d xs.length := by
  obtain ⟨pa, len, cap, rfl⟩ := hv
  obtain ⟨n, hn⟩ := h
  rcases open_slice1 Tryz.underlying39 kS hn with ⟨h3, h4⟩ | ⟨a, l, c, m, n', V, D, Pl, h3, _, hlc, hcm, hm, hx, hall⟩
  · simp [Value.cells] at h3
    obtain ⟨rfl, rfl, rfl⟩ := h3
    cases h4
    exact ⟨[], ⟨⟨none, 0, rfl, Nat.le_refl _, by decide, fun j hj => absurd hj (by simp)⟩, fun s hs => by cases hs⟩, .inl ⟨rfl, rfl⟩⟩
  · simp [Value.cells] at h3
    obtain ⟨rfl, rfl, rfl⟩ := h3
    have hmc : m = cap := by simpa using hm
    subst hmc
    cases hx
    obtain ⟨f, hf⟩ := choose_n (R := fun i (s : List UInt8) => s.length ≤ maxLen ∧ a = ⟨a.block, a.off, none⟩ ∧ W.cell? ⟨a.block, a.off + i, none⟩ = some (.string (bs s))) [] (fun i hi => by
      obtain ⟨h1, h2⟩ := hall i (show i < m from Nat.lt_of_lt_of_le (show i < len from hi) hlc)
      obtain ⟨s, e, _, m0⟩ := DataW.trod_string Tryz.underlying9 h2
      simp at e
      rw [e] at h1
      obtain ⟨b, off, spot⟩ := a
      have hspot : spot = none := by
        have := (hall 0 (Nat.lt_of_lt_of_le (show 0 < len by omega) hlc)).1
        simpa [Addr.add] using World.cell?_spot this
      subst hspot
      rw [add_plain] at h1
      refine ⟨s.data.toList, ?_, rfl, by rw [bs_data]; exact h1⟩
      have l0 : s.data.toList.length = s.size := by rw [Array.length_toList]; rfl
      omega)
    refine ⟨(List.range len).map f, ⟨⟨some a, m, by simp, by simpa using hlc, hcm, fun i hi => ?_⟩, fun s hs => ?_⟩, .inr ⟨_, _, rfl, by simp⟩⟩
    · have hi' : i < len := by simpa using hi
      obtain ⟨_, e, hc⟩ := hf i hi'
      refine ⟨a.block, a.off, by rw [← e], ?_⟩
      simp only [List.getElem_map, List.getElem_range]
      exact hc
    · obtain ⟨i, hi, rfl⟩ := List.mem_map.1 hs
      exact (hf i (by simpa using hi)).1
end
theorem sheet_reach {H : Type} {d : DataW H} {n : Nat} {ts : List TypeId} {ds : List (DataW H)} {j : Nat} (h : (DataW.weightsEach Tryz.prog ts ds).all (· ≤ reachBytes) = true) (ht : ts[j]? = some 22) (hd : ds[j]? = some d)
    (hl : LenD d n) : n * 56 ≤ 140737488351232 := by
  rcases hl with ⟨_, rfl⟩ | ⟨es, sp, rfl, he⟩
  · simp
  · have := sized_slice h ht hd Tryz.underlying22
    rw [show Tryz.prog.bytesOf 29 = 56 by kernel_rfl] at this
    simp only [reachBytes] at this
    omega
theorem names_reach {H : Type} {d : DataW H} {n : Nat} {ts : List TypeId} {ds : List (DataW H)} {j : Nat} (h : (DataW.weightsEach Tryz.prog ts ds).all (· ≤ reachBytes) = true) (ht : ts[j]? = some 39) (hd : ds[j]? = some d)
    (hl : LenD d n) : n * 16 ≤ 140737488351232 := by
  rcases hl with ⟨_, rfl⟩ | ⟨es, sp, rfl, he⟩
  · simp
  · have := sized_slice h ht hd Tryz.underlying39
    rw [show Tryz.prog.bytesOf 9 = 16 by kernel_rfl] at this
    simp only [reachBytes] at this
    omega
theorem d_bulk {H : Type} : ∀ ds : List (DataW H), ds.length ≤ Rows.uptoBulkAll ds
  | [] => by simp [Rows.uptoBulkAll]
  | d :: r => by
    have h1 : 1 ≤ Rows.uptoBulk d := by
      cases d with
      | lit l => cases l <;> simp [Rows.uptoBulk]
      | _ => simp [Rows.uptoBulk]
    have := d_bulk r
    simp only [Rows.uptoBulkAll, List.length_cons]
    omega
theorem lenD_bulk {H : Type} {d : DataW H} {n m : Nat} (h : LenD d n) (hb : Rows.uptoBulk d ≤ m) : n ≤ m := by
  rcases h with ⟨rfl, rfl⟩ | ⟨es, sp, rfl, he⟩
  · omega
  · have := d_bulk es
    simp only [Rows.uptoBulk] at hb
    omega
end Go.Proofs.YtceanagnkcejgaaGreatDoor
