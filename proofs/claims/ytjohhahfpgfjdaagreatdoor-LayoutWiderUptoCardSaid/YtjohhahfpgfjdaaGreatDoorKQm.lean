/- Layer 13: the law LayoutWider. -/
import Derived.Test.YtjohhahfpgfjdaaGreatDoorK35
import Derived.Test.YtjohhahfpgfjdaaGreatDoorK36
import Derived.Test.YtjohhahfpgfjdaaGreatDoorK37
import Derived.Test.YtjohhahfpgfjdaaGreatDoorKQj
import Derived.Test.YtjohhahfpgfjdaaGreatDoorKQl
namespace Go.Proofs.YtjohhahfpgfjdaaGreatDoor.Tb
open Go.RowKit Go.Maps
open Go.Proofs.YtjohhahfpgfjdaaGreatDoor.Ly (Tabs2 Tabs2.below)
set_option linter.unusedVariables false
set_option linter.unusedSimpArgs false
theorem rem_two (x : Int) : ∃ q : Nat, q < 200 ∧ (x.tmod 200 + 200).tmod 200 = q ∧ -200 < x.tmod 200 ∧ x.tmod 200 < 200 ∧ 0 < x.tmod 200 + 200 ∧ x.tmod 200 + 200 < 400 := by
  have h1 : x.tmod 200 < 200 := Int.tmod_lt_of_pos x (by omega)
  have h2 : -200 < x.tmod 200 := by
    have h3 : (-x).tmod 200 < 200 := Int.tmod_lt_of_pos (-x) (by omega)
    rw [Int.neg_tmod] at h3
    omega
  have h4 := Int.tmod_lt_of_pos (x.tmod 200 + 200) (show (0 : Int) < 200 by omega)
  have h5 := Int.tmod_nonneg (200 : Int) (show 0 ≤ x.tmod 200 + 200 by omega)
  exact ⟨((x.tmod 200 + 200).tmod 200).toNat, by omega, by omega, h2, h1, by omega, by omega⟩
def paraB (s : ByteArray) : Obj := .cells #[.int .i64 8, .int .i64 (-1), .string ⟨#[]⟩, .slice none 0 0, .int .i64 1, .int .i64 0, .string s, .slice none 0 0, .int .i64 9, .int .i64 0, .string ⟨#[]⟩, .slice none 0 0] 53
theorem para_op (s : ByteArray) (w : World) : Ir.RdO (fun _ => True) (w.alloc (paraB s)) (.slice (some ⟨w.heap.size, 0, none⟩) 3 3) (onePara s) := by
  have h := heap_alloc_new w (paraB s)
  refine ⟨_, 3, rfl, Nat.le_refl _, by decide, fun j hj => ⟨w.heap.size, 0, rfl, trivial, ?_⟩⟩
  have hj4 : j < 3 := hj
  rcases (show j = 0 ∨ j = 1 ∨ j = 2 by omega) with rfl | rfl | rfl <;> (refine ⟨?_, ?_, ?_, _, ?_, ⟨none, 0, rfl, Nat.le_refl _, Nat.zero_le _, fun i hi => absurd hi (Nat.not_lt_zero _)⟩⟩ <;> (rw [cell_of_row _ _ _ _ _ _ h]; rfl))
theorem para_bulk (s : ByteArray) (h : s.size ≤ 5000) : (onePara s).length * 56 ≤ 140737488355328 ∧ (∀ x ∈ onePara s, x.w.length * 8 ≤ 140737488355328) ∧ Ir.sizeOk (onePara s) := by
  refine ⟨by simp [onePara], fun x hx => ?_, ?_⟩
  · simp only [onePara, List.mem_cons, List.not_mem_nil, or_false] at hx
    rcases hx with rfl | rfl | rfl <;> simp
  · unfold Ir.sizeOk
    simp [onePara, Ir.sumT]
    omega
theorem flow_len (s : ByteArray) : (flowOf s).length = (cells s).length := by unfold flowOf; rw [List.length_map]
theorem flow_at {s : ByteArray} {k : Nat} (h : k < (cells s).length) : (flowOf s).drop k = celG { yPara with ah := 8 } s (cells s)[k] :: (flowOf s).drop (k + 1) := by
  have h2 : k < (flowOf s).length := by rw [flow_len]; exact h
  rw [List.drop_eq_getElem_cons h2]
  congr 1
  simp [flowOf]
theorem okQ_at {s : ByteArray} {k : Nat} {w n : Int} (h : k < (cells s).length) : okQ w n ((flowOf s).drop k) ↔ (if (s.extract (cells s)[k].1 (cells s)[k].2.1).toList == [32] then 0 else n + (cells s)[k].2.2) ≤ w ∧ okQ w (if (s.extract (cells s)[k].1 (cells s)[k].2.1).toList == [32] then 0 else n + (cells s)[k].2.2) ((flowOf s).drop (k + 1)) := by
  rw [flow_at h]
  exact Iff.rfl
end Go.Proofs.YtjohhahfpgfjdaaGreatDoor.Tb
