/- A list of bytes that came in: what it reads as. -/
import Derived.Test.YtcgeldmbndaocaaDoorOBase
import Derived.OpenShut
import Derived.ProofKit
import Derived.WideKeyArgs
import Derived.SizedLaws
namespace Go.Proofs.YtcgeldmbndaocaaDoor
open Go.ChangeShapes Go.WideShapes Go.RowKit

theorem bytes_read {H : Type} {enc : TypeId × Value → H} {W : World} {v : Value} {d : DataW H} {p : List MemPlace} (h : DataW.Trod enc Tryd.prog W 0 (fun _ => true) true 22 v d p) (hv : ∃ pa len cap, v = .slice pa len cap) :
    ∃ l : List UInt8, Rd W v l ∧ (d = .nil ∧ l = [] ∨ ∃ es sp, d = .slice es sp ∧ es.length = l.length) := by
  obtain ⟨pa, len, cap, rfl⟩ := hv
  obtain ⟨n, hn⟩ := h
  rcases open_ints Tryd.underlying22 Tryd.underlying5 (by kernel_rfl) hn with ⟨h3, h4⟩ | ⟨a, l, c, zs, h3, _, hlc, hcm, hz, hx, hcell, hwf⟩
  · simp [Value.cells] at h3
    obtain ⟨rfl, rfl, rfl⟩ := h3
    cases h4
    exact ⟨[], Rd.nil _, .inl ⟨rfl, rfl⟩⟩
  · simp [Value.cells] at h3
    obtain ⟨rfl, rfl, rfl⟩ := h3
    have hzl : zs.length = cap := by simpa using hz
    have hl : ((zs.take len).map fun z => UInt8.ofNat z.toNat).length = len := by rw [List.length_map, List.length_take]; omega
    cases hx
    refine ⟨(zs.take len).map fun z => UInt8.ofNat z.toNat, ⟨_, _, by rw [hl], by rw [hl]; exact hlc, hcm, fun j hj => ?_⟩, .inr ⟨_, _, rfl, by rw [hl]; simp [lits]; omega⟩⟩
    have hj' : j < len := by rw [hl] at hj; exact hj
    obtain ⟨b, off, rfl, hc⟩ := ints_at hcell (by omega)
    refine ⟨b, off, rfl, (hc j (by omega)).trans ?_⟩
    have hm : zs[j]'(by omega) ∈ zs := List.getElem_mem _
    have hw := hwf _ hm
    simp only [List.getElem_map, List.getElem_take]
    have e : zs.getD j 0 = zs[j]'(by omega) := by simp [List.getD, List.getElem?_eq_getElem (show j < zs.length by omega)]
    rw [e]
    simp [Lit.wf, IntKind.min, IntKind.max, IntKind.signed, IntKind.bits] at hw
    congr 2
    rw [UInt8.toNat_ofNat_of_lt' (by show _ < 256; omega)]
    omega
/-- How long it is at most. -/
theorem bytes_reach {H : Type} {d : DataW H} {l : List UInt8} {ts : List TypeId} {ds : List (DataW H)} {j : Nat} (h : (DataW.weightsEach Tryd.prog ts ds).all (· ≤ reachBytes) = true) (ht : ts[j]? = some 22) (hd : ds[j]? = some d)
    (hl : d = .nil ∧ l = [] ∨ ∃ es sp, d = .slice es sp ∧ es.length = l.length) : l.length ≤ 140737488351232 := by
  rcases hl with ⟨_, rfl⟩ | ⟨es, sp, rfl, he⟩
  · simp
  · have := sized_slice h ht hd Tryd.underlying22
    rw [show Tryd.prog.bytesOf 5 = 1 by kernel_rfl] at this
    simp only [reachBytes] at this
    omega
end Go.Proofs.YtcgeldmbndaocaaDoor
