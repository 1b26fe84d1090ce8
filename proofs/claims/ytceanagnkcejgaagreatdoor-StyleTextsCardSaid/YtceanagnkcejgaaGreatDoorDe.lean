/- Lists of texts, copied and appended to. -/
import Derived.Test.YtceanagnkcejgaaGreatDoorDd
import Derived.Test.YtceanagnkcejgaaGreatDoorNst
namespace Go.Proofs.YtceanagnkcejgaaGreatDoor
open Go.RowKit
set_option linter.unusedVariables false

theorem infoStr : (Tryz.prog.info? 9).map (fun i => (i.zero, i.size, i.bytes)) = some (some (.string .empty), 1, 16) := by kernel_rfl
def strRows (xs : List (List UInt8)) : List Value := xs.map fun x => Value.string (bs x)
theorem strRows_len (xs : List (List UInt8)) : (strRows xs).length = xs.length := by simp [strRows]
theorem strRows_app (a b : List (List UInt8)) : strRows (a ++ b) = strRows a ++ strRows b := by simp [strRows]
theorem strRows_one (xs : List (List UInt8)) : ∀ u ∈ strRows xs, u.oneCell' = true := by
  intro u hu
  obtain ⟨x, _, rfl⟩ := List.mem_map.1 hu
  rfl
theorem RdS.lies {w : World} {v : Value} {xs : List (List UInt8)} (h : RdS w v xs) : Lies w 1 v xs.length (strRows xs) := by
  obtain ⟨pa, cap, rfl, _, _, h4⟩ := h
  refine ⟨by rw [strRows_len]; omega, strRows_one xs, ?_⟩
  cases pa with
  | none =>
    left
    have : xs.length = 0 := by
      rcases Nat.eq_zero_or_pos xs.length with h | h
      · exact h
      · obtain ⟨b, off, e, _⟩ := h4 0 h; cases e
    exact ⟨cap, by rw [this], this⟩
  | some a =>
    right
    refine ⟨a, cap, rfl, fun j u hj => ?_⟩
    have hjl : j < xs.length := by have := (List.getElem?_eq_some_iff.1 hj).1; rwa [strRows_len] at this
    obtain ⟨b, off, e, hc⟩ := h4 j hjl
    cases e
    have e2 : u = .string (bs xs[j]) := by simpa [strRows, hjl] using hj.symm
    rw [Addr.add_lit, e2]
    exact hc
theorem RdS.own {w : World} {base : Nat} {v : Value} {xs : List (List UInt8)} (h : w.ownsRow base 9 1 v xs.length (strRows xs)) : RdS w v xs := by
  rcases h.2 with ⟨rfl, h0⟩ | ⟨g, cap, cur, rfl, hb, hg, h1, h2, h3, h4⟩
  · have : xs = [] := List.eq_nil_of_length_eq_zero h0
    subst this
    exact ⟨none, 0, rfl, Nat.le_refl _, Nat.zero_le _, fun i hi => absurd hi (by simp)⟩
  · refine ⟨_, cap, rfl, h1, h2, fun j hj => ⟨g, 0, rfl, ?_⟩⟩
    rw [Nat.zero_add]
    have := World.ownsRow.cellAt h j (by omega)
    rw [this]
    simp [strRows, hj]
end Go.Proofs.YtceanagnkcejgaaGreatDoor
