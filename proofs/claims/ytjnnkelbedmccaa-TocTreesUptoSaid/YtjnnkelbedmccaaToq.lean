/- Layer 10: what came in: contents, numbers; a first world. -/
import Derived.Test.YtjnnkelbedmccaaTob
import Derived.Test.YtjnnkelbedmccaaRows
import Derived.Deep.Strs
import Derived.Deep.Slices
import Derived.Lib.SmallJoins
import Derived.Lib.LaidIn
namespace Go.Proofs.Ytjnnkelbedmccaa
open Go.Deep Go.ChangeShapes Go.WideShapes Go.RowKit
set_option linter.unusedVariables false
set_option maxRecDepth 100000
/-- How a list's reading tells its length. -/
def LenD {H : Type} (d : DataW H) (n : Nat) : Prop := d = .nil ∧ n = 0 ∨ ∃ es sp, d = .slice es sp ∧ es.length = n
theorem choose_n {α : Type} {n : Nat} {R : Nat → α → Prop} (z : α) (h : ∀ i, i < n → ∃ a, R i a) : ∃ f : Nat → α, ∀ i, i < n → R i (f i) := by
  have : ∀ i, ∃ a, i < n → R i a := by
    intro i
    by_cases hi : i < n
    · obtain ⟨a, ha⟩ := h i hi
      exact ⟨a, fun _ => ha⟩
    · exact ⟨z, fun h => absurd h hi⟩
  exact ⟨fun i => Classical.choose (this i), fun i hi => Classical.choose_spec (this i) hi⟩
def In64 (z : Int) : Prop := -9223372036854775808 ≤ z ∧ z ≤ 9223372036854775807
theorem in64_wf {z : Int} (w : (Lit.int .i64 z).wf = true) : In64 z := by unfold In64; simpa [Lit.wf, IntKind.min, IntKind.max, IntKind.signed, IntKind.bits] using w
theorem kI : Try.prog.cellsOf 3 = 1 := by kernel_rfl
theorem kS : Try.prog.cellsOf 9 = 1 := by kernel_rfl
theorem kEn : Try.prog.cellsOf 67 = 2 := by kernel_rfl
section
variable {H : Type} {enc : TypeId × Value → H} {P : Program} {w : World} {base : Nat} {spare : Nat → Bool} {held : Bool}
theorem trod_struct2 {t : TypeId} {f0 f1 : Field} {fuel : Nat} {cs : List Value} {x : DataW H × List MemPlace} (ht : P.underlying t = some (.struct #[f0, f1])) (h : DataW.trod enc P w base spare held fuel t cs = some x) :
    ∃ y0 y1 n, cs.length = P.cellsOf t ∧ DataW.trod enc P w base spare held n f0.type ((cs.drop f0.offset).take (P.cellsOf f0.type)) = some y0 ∧
      DataW.trod enc P w base spare held n f1.type ((cs.drop f1.offset).take (P.cellsOf f1.type)) = some y1 := by
  obtain ⟨xs, n, _, rfl, hl, hlen, hf⟩ := DataW.trod_struct ht h
  match xs, hlen with
  | [y0, y1], _ => exact ⟨y0, y1, n, hl, by simpa using hf 0 f0 rfl, by simpa using hf 1 f1 rfl⟩
end
section
variable {H : Type} {enc : TypeId × Value → H} {W : World}
theorem ent_cells {n : Nat} {cs : List Value} {x : DataW H × List MemPlace} (h : DataW.trod enc Try.prog W 0 (fun _ => true) true n 67 cs = some x) :
    ∃ s : Ent, cs = [.int .i64 s.tp, .int .i64 s.lv] ∧ FitE s := by
  obtain ⟨y0, y1, n, hl, h0, h1⟩ := trod_struct2 Try.underlying67 h
  have hl3 : cs.length = 2 := hl.trans kEn
  match cs, hl3 with
  | [c0, c1], _ =>
    simp [kI] at h0 h1
    obtain ⟨z0, e0, _, w0⟩ := DataW.trod_int Try.underlying3 h0
    obtain ⟨z1, e1, _, w1⟩ := DataW.trod_int Try.underlying3 h1
    simp at e0 e1
    subst e0 e1
    exact ⟨⟨z0, z1⟩, rfl, w0, w1⟩
theorem ents_read {v : Value} {d : DataW H} {p : List MemPlace} (h : DataW.Trod enc Try.prog W 0 (fun _ => true) true 34 v d p) (hv : ∃ pa len cap, v = .slice pa len cap) :
    ∃ l : List Ent, RdE W v l ∧ LenD d l.length := by
  obtain ⟨pa, len, cap, rfl⟩ := hv
  obtain ⟨n, hn⟩ := h
  rcases open_slice Try.underlying34 hn with ⟨h3, h4⟩ | ⟨a, l, c, m, n', D, Pl, h3, _, hlc, hcm, hm, hx, hall⟩
  · simp [Value.cells] at h3
    obtain ⟨rfl, rfl, rfl⟩ := h3
    cases h4
    exact ⟨[], ⟨none, 0, rfl, Nat.le_refl _, by decide, (fun s hs => by cases hs), fun j hj => absurd hj (by simp)⟩, .inl ⟨rfl, rfl⟩⟩
  · simp [Value.cells] at h3
    obtain ⟨rfl, rfl, rfl⟩ := h3
    have hmc : m = cap := by simpa using hm
    subst hmc
    cases hx
    obtain ⟨f, hf⟩ := choose_n (R := fun i (s : Ent) => FitE s ∧ ∃ spot, a = ⟨a.block, a.off, spot⟩ ∧ spot = none ∧ ∀ k u, ([Value.int .i64 s.tp, .int .i64 s.lv])[k]? = some u → W.cell? ⟨a.block, a.off + i * 2 + k, none⟩ = some u) ⟨0, 0⟩ (fun i hi => by
      obtain ⟨cs', h1, h2⟩ := hall i (show i < m from Nat.lt_of_lt_of_le (show i < len from hi) hlc)
      obtain ⟨s, rfl, hs⟩ := ent_cells h2
      rw [kEn] at h1
      obtain ⟨_, _, hcell⟩ := World.cells?_some h1
      obtain ⟨b, off, spot⟩ := a
      have hspot : spot = none := by
        obtain ⟨cs0, h01, h02⟩ := hall 0 (Nat.lt_of_lt_of_le (show 0 < len by omega) hlc)
        obtain ⟨s0, rfl, _⟩ := ent_cells h02
        rw [kEn] at h01
        obtain ⟨_, _, hc0⟩ := World.cells?_some h01
        have := hc0 0 (by omega)
        rw [show ([Value.int .i64 s0.tp, .int .i64 s0.lv])[0]? = some (.int .i64 s0.tp) from rfl] at this
        simpa [Addr.add] using World.cell?_spot this
      subst hspot
      refine ⟨s, hs, none, rfl, rfl, fun k u hk => ?_⟩
      have hk5 : k < 2 := by
        rcases Nat.lt_or_ge k 2 with h | h
        · exact h
        · rw [List.getElem?_eq_none (by simpa using h)] at hk; cases hk
      have := hcell k hk5
      rw [add_add, add_plain] at this
      rw [← hk, ← this, Nat.add_assoc])
    refine ⟨(List.range len).map f, ⟨some a, m, by simp, by simpa using hlc, hcm, fun s hs => ?_, fun i hi => ?_⟩, .inr ⟨_, _, rfl, by simp⟩⟩
    · obtain ⟨i, hi, rfl⟩ := List.mem_map.1 hs
      exact (hf i (by simpa using hi)).1
    · have hi' : i < len := by simpa using hi
      obtain ⟨_, spot, e, e2, hc⟩ := hf i hi'
      subst e2
      refine ⟨a.block, a.off, by rw [← e], ?_, ?_⟩
      · simp only [List.getElem_map, List.getElem_range]
        exact hc 0 _ rfl
      · simp only [List.getElem_map, List.getElem_range]
        exact hc 1 _ rfl
theorem ints_read {v : Value} {d : DataW H} {p : List MemPlace} (h : DataW.Trod enc Try.prog W 0 (fun _ => true) true 28 v d p) (hv : ∃ pa len cap, v = .slice pa len cap) :
    ∃ xs : List Int, (RdZ W v xs ∧ ∀ x ∈ xs, (Lit.int .i64 x).wf = true) ∧ LenD d xs.length := by
  obtain ⟨pa, len, cap, rfl⟩ := hv
  obtain ⟨n, hn⟩ := h
  rcases open_slice1 Try.underlying28 kI hn with ⟨h3, h4⟩ | ⟨a, l, c, m, n', V, D, Pl, h3, _, hlc, hcm, hm, hx, hall⟩
  · simp [Value.cells] at h3
    obtain ⟨rfl, rfl, rfl⟩ := h3
    cases h4
    exact ⟨[], ⟨⟨none, 0, rfl, Nat.le_refl _, by decide, fun j hj => absurd hj (by simp)⟩, fun s hs => by cases hs⟩, .inl ⟨rfl, rfl⟩⟩
  · simp [Value.cells] at h3
    obtain ⟨rfl, rfl, rfl⟩ := h3
    have hmc : m = cap := by simpa using hm
    subst hmc
    cases hx
    obtain ⟨f, hf⟩ := choose_n (R := fun i (z : Int) => (Lit.int .i64 z).wf = true ∧ a = ⟨a.block, a.off, none⟩ ∧ W.cell? ⟨a.block, a.off + i, none⟩ = some (.int .i64 z)) 0 (fun i hi => by
      obtain ⟨h1, h2⟩ := hall i (show i < m from Nat.lt_of_lt_of_le (show i < len from hi) hlc)
      obtain ⟨z, e, _, m0⟩ := DataW.trod_int Try.underlying3 h2
      simp at e
      rw [e] at h1
      obtain ⟨b, off, spot⟩ := a
      have hspot : spot = none := by
        have := (hall 0 (Nat.lt_of_lt_of_le (show 0 < len by omega) hlc)).1
        simpa [Addr.add] using World.cell?_spot this
      subst hspot
      rw [add_plain] at h1
      exact ⟨z, m0, rfl, h1⟩)
    refine ⟨(List.range len).map f, ⟨⟨some a, m, by simp, by simpa using hlc, by assumption, fun i hi => ?_⟩, fun s hs => ?_⟩, .inr ⟨_, _, rfl, by simp⟩⟩
    · have hi' : i < len := by simpa using hi
      obtain ⟨_, e, hc⟩ := hf i hi'
      refine ⟨a.block, a.off, by rw [← e], ?_⟩
      simp only [List.getElem_map, List.getElem_range]
      exact hc
    · obtain ⟨i, hi, rfl⟩ := List.mem_map.1 hs
      exact (hf i (by simpa using hi)).1
end
theorem ints_reach {H : Type} {d : DataW H} {n : Nat} {ts : List TypeId} {ds : List (DataW H)} {j : Nat} (h : (DataW.weightsEach Try.prog ts ds).all (· ≤ reachBytes) = true) (ht : ts[j]? = some 28) (hd : ds[j]? = some d)
    (hl : LenD d n) : n * 8 ≤ 140737488351232 := by
  rcases hl with ⟨_, rfl⟩ | ⟨es, sp, rfl, he⟩
  · simp
  · have := sized_slice h ht hd Try.underlying28
    rw [show Try.prog.bytesOf 3 = 8 by kernel_rfl] at this
    simp only [reachBytes] at this
    omega
theorem ents_reach {H : Type} {d : DataW H} {n : Nat} {ts : List TypeId} {ds : List (DataW H)} {j : Nat} (h : (DataW.weightsEach Try.prog ts ds).all (· ≤ reachBytes) = true) (ht : ts[j]? = some 34) (hd : ds[j]? = some d)
    (hl : LenD d n) : n * 16 ≤ 140737488351232 := by
  rcases hl with ⟨_, rfl⟩ | ⟨es, sp, rfl, he⟩
  · simp
  · have := sized_slice h ht hd Try.underlying34
    rw [show Try.prog.bytesOf 67 = 16 by kernel_rfl] at this
    simp only [reachBytes] at this
    omega

theorem own : ownKnob Try.prog.godebug = none := by kernel_rfl
/-- A world for the witness: nothing of the library is laid. -/
noncomputable def laidWorld (os : Os) : World := World.holding Try.prog os ⟨#[], #[], []⟩
theorem laid_met (w : World) : laidMet Try.prog [] w := ⟨[], rfl, List.nodup_nil, fun _ _ h => by cases h⟩
end Go.Proofs.Ytjnnkelbedmccaa
