/- What came in: references, numbers; a first world. -/
import Derived.Test.YtjgcbobalmmjkaaLka
import Derived.Test.YtjgcbobalmmjkaaRows
import Derived.Deep.Strs
import Derived.Deep.Slices
import Derived.Lib.SmallJoins
import Derived.Lib.LaidIn
namespace Go.Proofs.Ytjgcbobalmmjkaa
open Go.Deep Go.ChangeShapes Go.WideShapes Go.RowKit
set_option linter.unusedVariables false
set_option maxRecDepth 100000
/-- How a list's reading tells its length. -/
def LenD {H : Type} (d : DataW H) (n : Nat) : Prop := d = .nil ∧ n = 0 ∨ ∃ es sp, d = .slice es sp ∧ es.length = n
theorem choose_n {α : Type} {n : Nat} {R : Nat → α → Prop} (z : α) (h : ∀ i, i < n → ∃ a, R i a) : ∃ f : Nat → α, ∀ i, i < n → R i (f i) := by
  have : ∀ i, ∃ a, i < n → R i a := by
    intro i
    by_cases hi : i < n
    · obtain ⟨a, ha⟩ := h i hi
      exact ⟨a, fun _ => ha⟩
    · exact ⟨z, fun h => absurd h hi⟩
  exact ⟨fun i => Classical.choose (this i), fun i hi => Classical.choose_spec (this i) hi⟩
def In64 (z : Int) : Prop := -9223372036854775808 ≤ z ∧ z ≤ 9223372036854775807
theorem in64_wf {z : Int} (w : (Lit.int .i64 z).wf = true) : In64 z := by unfold In64; simpa [Lit.wf, IntKind.min, IntKind.max, IntKind.signed, IntKind.bits] using w
theorem kI : Try.prog.cellsOf 3 = 1 := by kernel_rfl
theorem kS : Try.prog.cellsOf 9 = 1 := by kernel_rfl
theorem kRf : Try.prog.cellsOf 45 = 6 := by kernel_rfl
def zeroR : Rf := ⟨0, 0, 0, .empty, 0, 0⟩
def FitR (r : Rf) : Prop := In64 r.fr ∧ In64 r.to ∧ In64 r.note ∧ In64 r.line ∧ In64 r.col
section
variable {H : Type} {enc : TypeId × Value → H} {P : Program} {w : World} {base : Nat} {spare : Nat → Bool} {held : Bool}
theorem trod_struct6 {t : TypeId} {f0 f1 f2 f3 f4 f5 : Field} {fuel : Nat} {cs : List Value} {x : DataW H × List MemPlace} (ht : P.underlying t = some (.struct #[f0, f1, f2, f3, f4, f5])) (h : DataW.trod enc P w base spare held fuel t cs = some x) :
    ∃ y0 y1 y2 y3 y4 y5 n, cs.length = P.cellsOf t ∧ DataW.trod enc P w base spare held n f0.type ((cs.drop f0.offset).take (P.cellsOf f0.type)) = some y0 ∧
      DataW.trod enc P w base spare held n f1.type ((cs.drop f1.offset).take (P.cellsOf f1.type)) = some y1 ∧ DataW.trod enc P w base spare held n f2.type ((cs.drop f2.offset).take (P.cellsOf f2.type)) = some y2 ∧
      DataW.trod enc P w base spare held n f3.type ((cs.drop f3.offset).take (P.cellsOf f3.type)) = some y3 ∧ DataW.trod enc P w base spare held n f4.type ((cs.drop f4.offset).take (P.cellsOf f4.type)) = some y4 ∧
      DataW.trod enc P w base spare held n f5.type ((cs.drop f5.offset).take (P.cellsOf f5.type)) = some y5 := by
  obtain ⟨xs, n, _, rfl, hl, hlen, hf⟩ := DataW.trod_struct ht h
  match xs, hlen with
  | [y0, y1, y2, y3, y4, y5], _ => exact ⟨y0, y1, y2, y3, y4, y5, n, hl, by simpa using hf 0 f0 rfl, by simpa using hf 1 f1 rfl, by simpa using hf 2 f2 rfl, by simpa using hf 3 f3 rfl, by simpa using hf 4 f4 rfl, by simpa using hf 5 f5 rfl⟩
end
section
variable {H : Type} {enc : TypeId × Value → H} {W : World}
theorem rf_cells {n : Nat} {cs : List Value} {x : DataW H × List MemPlace} (h : DataW.trod enc Try.prog W 0 (fun _ => true) true n 45 cs = some x) :
    ∃ s : Rf, cs = rfRow s ∧ FitR s := by
  obtain ⟨y0, y1, y2, y3, y4, y5, n, hl, h0, h1, h2, h3, h4, h5⟩ := trod_struct6 Try.underlying45 h
  have hl3 : cs.length = 6 := hl.trans kRf
  match cs, hl3 with
  | [c0, c1, c2, c3, c4, c5], _ =>
    simp [kS, kI] at h0 h1 h2 h3 h4 h5
    obtain ⟨z0, e0, _, w0⟩ := DataW.trod_int Try.underlying3 h0
    obtain ⟨z1, e1, _, w1⟩ := DataW.trod_int Try.underlying3 h1
    obtain ⟨z2, e2, _, w2⟩ := DataW.trod_int Try.underlying3 h2
    obtain ⟨s3, e3, _, m3⟩ := DataW.trod_string Try.underlying9 h3
    obtain ⟨z4, e4, _, w4⟩ := DataW.trod_int Try.underlying3 h4
    obtain ⟨z5, e5, _, w5⟩ := DataW.trod_int Try.underlying3 h5
    simp at e0 e1 e2 e3 e4 e5
    subst e0 e1 e2 e3 e4 e5
    exact ⟨⟨z0, z1, z2, s3, z4, z5⟩, rfl, in64_wf w0, in64_wf w1, in64_wf w2, in64_wf w4, in64_wf w5⟩
theorem refs_read {v : Value} {d : DataW H} {p : List MemPlace} (h : DataW.Trod enc Try.prog W 0 (fun _ => true) true 22 v d p) (hv : ∃ pa len cap, v = .slice pa len cap) :
    ∃ l : List Rf, (RdR W v l ∧ ∀ r ∈ l, FitR r) ∧ LenD d l.length := by
  obtain ⟨pa, len, cap, rfl⟩ := hv
  obtain ⟨n, hn⟩ := h
  rcases open_slice Try.underlying22 hn with ⟨h3, h4⟩ | ⟨a, l, c, m, n', D, Pl, h3, _, hlc, hcm, hm, hx, hall⟩
  · simp [Value.cells] at h3
    obtain ⟨rfl, rfl, rfl⟩ := h3
    cases h4
    exact ⟨[], ⟨⟨none, 0, rfl, Nat.le_refl _, by decide, fun j hj => absurd hj (by simp)⟩, fun s hs => by cases hs⟩, .inl ⟨rfl, rfl⟩⟩
  · simp [Value.cells] at h3
    obtain ⟨rfl, rfl, rfl⟩ := h3
    have hmc : m = cap := by simpa using hm
    subst hmc
    cases hx
    obtain ⟨f, hf⟩ := choose_n (R := fun i (s : Rf) => FitR s ∧ ∃ spot, a = ⟨a.block, a.off, spot⟩ ∧ spot = none ∧ ∀ k u, (rfRow s)[k]? = some u → W.cell? ⟨a.block, a.off + i * 6 + k, none⟩ = some u) zeroR (fun i hi => by
      obtain ⟨cs', h1, h2⟩ := hall i (show i < m from Nat.lt_of_lt_of_le (show i < len from hi) hlc)
      obtain ⟨s, rfl, hs⟩ := rf_cells h2
      rw [kRf] at h1
      obtain ⟨_, _, hcell⟩ := World.cells?_some h1
      obtain ⟨b, off, spot⟩ := a
      have hspot : spot = none := by
        obtain ⟨cs0, h01, h02⟩ := hall 0 (Nat.lt_of_lt_of_le (show 0 < len by omega) hlc)
        obtain ⟨s0, rfl, _⟩ := rf_cells h02
        rw [kRf] at h01
        obtain ⟨_, _, hc0⟩ := World.cells?_some h01
        have := hc0 0 (by omega)
        rw [show (rfRow s0)[0]? = some (.int .i64 s0.fr) from rfl] at this
        simpa [Addr.add] using World.cell?_spot this
      subst hspot
      refine ⟨s, hs, none, rfl, rfl, fun k u hk => ?_⟩
      have hk5 : k < 6 := by
        rcases Nat.lt_or_ge k 6 with h | h
        · exact h
        · rw [List.getElem?_eq_none (by simpa [rfRow] using h)] at hk; cases hk
      have := hcell k hk5
      rw [add_add, add_plain] at this
      rw [← hk, ← this, Nat.add_assoc])
    refine ⟨(List.range len).map f, ⟨⟨some a, m, by simp, by simpa using hlc, hcm, fun i hi => ?_⟩, fun s hs => ?_⟩, .inr ⟨_, _, rfl, by simp⟩⟩
    · have hi' : i < len := by simpa using hi
      obtain ⟨_, spot, e, e2, hc⟩ := hf i hi'
      subst e2
      refine ⟨a.block, a.off, by rw [← e], ?_⟩
      simp only [List.getElem_map, List.getElem_range]
      exact hc
    · obtain ⟨i, hi, rfl⟩ := List.mem_map.1 hs
      exact (hf i (by simpa using hi)).1
theorem ints_read {v : Value} {d : DataW H} {p : List MemPlace} (h : DataW.Trod enc Try.prog W 0 (fun _ => true) true 23 v d p) (hv : ∃ pa len cap, v = .slice pa len cap) :
    ∃ xs : List Int, (RdZ W v xs ∧ ∀ x ∈ xs, In64 x) ∧ LenD d xs.length := by
  obtain ⟨pa, len, cap, rfl⟩ := hv
  obtain ⟨n, hn⟩ := h
  rcases open_slice1 Try.underlying23 kI hn with ⟨h3, h4⟩ | ⟨a, l, c, m, n', V, D, Pl, h3, _, hlc, hcm, hm, hx, hall⟩
  · simp [Value.cells] at h3
    obtain ⟨rfl, rfl, rfl⟩ := h3
    cases h4
    exact ⟨[], ⟨⟨none, 0, rfl, fun j hj => absurd hj (by simp)⟩, fun s hs => by cases hs⟩, .inl ⟨rfl, rfl⟩⟩
  · simp [Value.cells] at h3
    obtain ⟨rfl, rfl, rfl⟩ := h3
    have hmc : m = cap := by simpa using hm
    subst hmc
    cases hx
    obtain ⟨f, hf⟩ := choose_n (R := fun i (z : Int) => In64 z ∧ a = ⟨a.block, a.off, none⟩ ∧ W.cell? ⟨a.block, a.off + i, none⟩ = some (.int .i64 z)) 0 (fun i hi => by
      obtain ⟨h1, h2⟩ := hall i (show i < m from Nat.lt_of_lt_of_le (show i < len from hi) hlc)
      obtain ⟨z, e, _, m0⟩ := DataW.trod_int Try.underlying3 h2
      simp at e
      rw [e] at h1
      obtain ⟨b, off, spot⟩ := a
      have hspot : spot = none := by
        have := (hall 0 (Nat.lt_of_lt_of_le (show 0 < len by omega) hlc)).1
        simpa [Addr.add] using World.cell?_spot this
      subst hspot
      rw [add_plain] at h1
      exact ⟨z, in64_wf m0, rfl, h1⟩)
    refine ⟨(List.range len).map f, ⟨⟨some a, m, by simp, fun i hi => ?_⟩, fun s hs => ?_⟩, .inr ⟨_, _, rfl, by simp⟩⟩
    · have hi' : i < len := by simpa using hi
      obtain ⟨_, e, hc⟩ := hf i hi'
      refine ⟨a.block, a.off, by rw [← e], ?_⟩
      simp only [List.getElem_map, List.getElem_range]
      exact hc
    · obtain ⟨i, hi, rfl⟩ := List.mem_map.1 hs
      exact (hf i (by simpa using hi)).1
end
theorem ints_reach {H : Type} {d : DataW H} {n : Nat} {ts : List TypeId} {ds : List (DataW H)} {j : Nat} (h : (DataW.weightsEach Try.prog ts ds).all (· ≤ reachBytes) = true) (ht : ts[j]? = some 23) (hd : ds[j]? = some d)
    (hl : LenD d n) : n * 8 ≤ 140737488351232 := by
  rcases hl with ⟨_, rfl⟩ | ⟨es, sp, rfl, he⟩
  · simp
  · have := sized_slice h ht hd Try.underlying23
    rw [show Try.prog.bytesOf 3 = 8 by kernel_rfl] at this
    simp only [reachBytes] at this
    omega
theorem refs_reach {H : Type} {d : DataW H} {n : Nat} {ts : List TypeId} {ds : List (DataW H)} {j : Nat} (h : (DataW.weightsEach Try.prog ts ds).all (· ≤ reachBytes) = true) (ht : ts[j]? = some 22) (hd : ds[j]? = some d)
    (hl : LenD d n) : n * 56 ≤ 140737488351232 := by
  rcases hl with ⟨_, rfl⟩ | ⟨es, sp, rfl, he⟩
  · simp
  · have := sized_slice h ht hd Try.underlying22
    rw [show Try.prog.bytesOf 45 = 56 by kernel_rfl] at this
    simp only [reachBytes] at this
    omega
theorem tmod_two (x : Int) (n : Nat) (h : 0 < n) : ∃ k : Nat, k < n ∧ (x.tmod n + n).tmod n = k ∧ -(n : Int) < x.tmod n ∧ x.tmod n < n ∧ 0 < x.tmod n + n ∧ x.tmod n + n < 2 * n := by
  have h1 : x.tmod n < n := Int.tmod_lt_of_pos x (by omega)
  have h2 : -(n : Int) < x.tmod n := by
    have h3 : (-x).tmod n < n := Int.tmod_lt_of_pos (-x) (by omega)
    rw [Int.neg_tmod] at h3
    omega
  refine ⟨((x.tmod n + n).tmod n).toNat, ?_, ?_, h2, h1, by omega, by omega⟩
  · have h4 := Int.tmod_lt_of_pos (x.tmod n + n) (show (0 : Int) < n by omega)
    have h5 := Int.tmod_nonneg (n : Int) (show 0 ≤ x.tmod n + n by omega)
    omega
  · have h5 := Int.tmod_nonneg (n : Int) (show 0 ≤ x.tmod n + n by omega)
    omega


theorem own : ownKnob Try.prog.godebug = none := by kernel_rfl
/-- A world for the witness: nothing of the library is laid. -/
noncomputable def laidWorld (os : Os) : World := World.holding Try.prog os ⟨#[], #[], []⟩
theorem laid_met (w : World) : laidMet Try.prog [] w := ⟨[], rfl, List.nodup_nil, fun _ _ h => by cases h⟩
end Go.Proofs.Ytjgcbobalmmjkaa
