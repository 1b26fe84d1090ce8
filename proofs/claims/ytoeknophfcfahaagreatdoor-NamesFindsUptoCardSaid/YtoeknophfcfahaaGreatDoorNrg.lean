/- What came in: lists of texts. -/
import Derived.Test.YtoeknophfcfahaaGreatDoorNb
import Derived.Test.YtoeknophfcfahaaGreatDoorNlf
import Derived.Deep.Strs
import Derived.Deep.Slices
import Derived.Lib.SmallJoins
namespace Go.Proofs.YtoeknophfcfahaaGreatDoor
open Go.Deep Go.ChangeShapes Go.WideShapes Go.RowKit
set_option linter.unusedVariables false
set_option maxRecDepth 100000
/-- How a list's reading tells its length. -/
def LenD {H : Type} (d : DataW H) (n : Nat) : Prop := d = .nil ∧ n = 0 ∨ ∃ es sp, d = .slice es sp ∧ es.length = n
theorem choose_n {α : Type} {n : Nat} {R : Nat → α → Prop} (z : α) (h : ∀ i, i < n → ∃ a, R i a) : ∃ f : Nat → α, ∀ i, i < n → R i (f i) := by
  have : ∀ i, ∃ a, i < n → R i a := by
    intro i
    by_cases hi : i < n
    · obtain ⟨a, ha⟩ := h i hi
      exact ⟨a, fun _ => ha⟩
    · exact ⟨z, fun h => absurd h hi⟩
  exact ⟨fun i => Classical.choose (this i), fun i hi => Classical.choose_spec (this i) hi⟩
theorem texts_reach {H : Type} {d : DataW H} {n : Nat} {ts : List TypeId} {ds : List (DataW H)} {j : Nat} (h : (DataW.weightsEach Tryz.prog ts ds).all (· ≤ reachBytes) = true) (ht : ts[j]? = some 22) (hd : ds[j]? = some d)
    (hl : LenD d n) : n * 16 ≤ 140737488351232 := by
  rcases hl with ⟨_, rfl⟩ | ⟨es, sp, rfl, he⟩
  · simp
  · have := sized_slice h ht hd Tryz.underlying22
    rw [show Tryz.prog.bytesOf 9 = 16 by kernel_rfl] at this
    simp only [reachBytes] at this
    omega
section
variable {H : Type} {enc : TypeId × Value → H} {W : World}
theorem texts_read {v : Value} {d : DataW H} {p : List MemPlace} (h : DataW.Trod enc Tryz.prog W 0 (fun _ => true) true 22 v d p) (hv : ∃ pa len cap, v = .slice pa len cap) :
    ∃ l : List ByteArray, RdT W v l ∧ LenD d l.length := by
  obtain ⟨pa, len, cap, rfl⟩ := hv
  obtain ⟨n, hn⟩ := h
  rcases open_slice1 Tryz.underlying22 (by kernel_rfl) hn with ⟨h3, h4⟩ | ⟨a, l, c, m, n', V, D, Pl, h3, _, hlc, hcm, hm, hx, hall⟩
  · simp [Value.cells] at h3
    obtain ⟨rfl, rfl, rfl⟩ := h3
    cases h4
    exact ⟨[], ⟨none, 0, rfl, Nat.le_refl _, by decide, fun j hj => absurd hj (by simp)⟩, .inl ⟨rfl, rfl⟩⟩
  · simp [Value.cells] at h3
    obtain ⟨rfl, rfl, rfl⟩ := h3
    have hmc : m = cap := by simpa using hm
    subst hmc
    cases hx
    obtain ⟨f, hf⟩ := choose_n (R := fun i (s : ByteArray) => a = ⟨a.block, a.off, none⟩ ∧ W.cell? ⟨a.block, a.off + i, none⟩ = some (.string s)) .empty (fun i hi => by
      obtain ⟨h1, h2⟩ := hall i (show i < m from Nat.lt_of_lt_of_le (show i < len from hi) hlc)
      obtain ⟨s, e, _, m0⟩ := DataW.trod_string Tryz.underlying9 h2
      simp at e
      rw [e] at h1
      obtain ⟨b, off, spot⟩ := a
      have hspot : spot = none := by
        have := (hall 0 (Nat.lt_of_lt_of_le (show 0 < len by omega) hlc)).1
        simpa [Addr.add] using World.cell?_spot this
      subst hspot
      rw [add_plain] at h1
      exact ⟨s, rfl, h1⟩)
    refine ⟨(List.range len).map f, ⟨some a, m, by simp, by simpa using hlc, hcm, fun i hi => ?_⟩, .inr ⟨_, _, rfl, by simp⟩⟩
    have hi' : i < len := by simpa using hi
    obtain ⟨e, hc⟩ := hf i hi'
    refine ⟨a.block, a.off, by rw [← e], ?_⟩
    simp only [List.getElem_map, List.getElem_range]
    exact hc
end
end Go.Proofs.YtoeknophfcfahaaGreatDoor
