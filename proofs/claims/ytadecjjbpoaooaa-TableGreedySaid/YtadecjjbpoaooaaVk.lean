/- Layer 12: numbers copied by a law. -/
import Derived.Test.YtadecjjbpoaooaaVh
import Derived.Test.YtadecjjbpoaooaaVj
namespace Go.Proofs.Ytadecjjbpoaooaa.Tb
open Go.RowKit Go.Maps
set_option linter.unusedVariables false
set_option linter.unusedSimpArgs false
theorem RdZ.lies {P : Nat → Prop} {w : World} {v : Value} {l : List Int} (h : RdZ P w v l) : Lies w 1 v l.length (numsZ l) := by
  obtain ⟨pa, cap, rfl, _, _, h4⟩ := h
  refine ⟨by rw [numsZ_len]; omega, numsZ_one l, ?_⟩
  cases pa with
  | none =>
    left
    have : l.length = 0 := by
      rcases Nat.eq_zero_or_pos l.length with h | h
      · exact h
      · obtain ⟨b, off, e, _⟩ := h4 0 h; cases e
    exact ⟨cap, by rw [this], this⟩
  | some a =>
    right
    refine ⟨a, cap, rfl, fun j u hj => ?_⟩
    have hj2 : j < l.length := by
      have := (List.getElem?_eq_some_iff.1 hj).1
      rw [numsZ_len] at this
      exact this
    obtain ⟨b, off, e, _, hc⟩ := h4 j hj2
    cases e
    rw [Addr.add_lit]
    have e2 : (numsZ l)[j]? = some (.int .i64 l[j]) := by simp [numsZ, hj2]
    rw [e2] at hj
    cases hj
    exact hc
end Go.Proofs.Ytadecjjbpoaooaa.Tb
