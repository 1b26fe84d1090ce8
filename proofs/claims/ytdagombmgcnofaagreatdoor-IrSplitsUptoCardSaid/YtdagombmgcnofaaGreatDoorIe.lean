/- Layer 11: the program's mayStand, kind by kind. -/
import Derived.Test.YtdagombmgcnofaaGreatDoorIe1
import Derived.Test.YtdagombmgcnofaaGreatDoorIe2
import Derived.Test.YtdagombmgcnofaaGreatDoorIe3
import Derived.Test.YtdagombmgcnofaaGreatDoorIe4
namespace Go.Proofs.YtdagombmgcnofaaGreatDoor.Ir
open Go.RowKit Go.Maps Go.Proofs.YtdagombmgcnofaaGreatDoor
set_option linter.unusedVariables false
theorem may_other {s : Wk} {k : Int} (h : ¬ (1 ≤ k ∧ k ≤ 14)) : mayS s k = false := by
  unfold mayS
  rw [if_neg (by omega), if_neg (by omega), if_neg (by omega), if_neg (by omega), if_neg (by omega), if_neg (by omega), if_neg (by omega), if_neg (by omega), if_neg (by omega), if_neg (by omega), if_neg (by omega), if_neg (by omega)]
set_option maxRecDepth 100000 in
set_option maxHeartbeats 2000000 in
theorem may_pro (M : Nat) (s : Wk) (k : Int) (w : World) (h : WkIs M w s) : mayCall M k s w := by
  by_cases hk : 1 ≤ k ∧ k ≤ 14
  · obtain ⟨j, rfl⟩ : ∃ j : Nat, k = j := ⟨k.toNat, by omega⟩
    have hj : 1 ≤ j ∧ j ≤ 14 := by omega
    clear hk
    rcases (show j = 1 ∨ j = 2 ∨ j = 3 ∨ j = 4 ∨ j = 5 ∨ j = 6 ∨ j = 7 ∨ j = 8 ∨ j = 9 ∨ j = 10 ∨ j = 11 ∨ j = 12 ∨ j = 13 ∨ j = 14 by omega) with rfl | rfl | rfl | rfl | rfl | rfl | rfl | rfl | rfl | rfl | rfl | rfl | rfl | rfl
    · exact may_1 M s w h
    · exact may_2 M s w h
    · exact may_link3 M s w h
    · exact may_link4 M s w h
    · exact may_5 M s w h
    · exact may_6 M s w h
    · exact may_7 M s w h
    · exact may_8 M s w h
    · exact may_9 M s w h
    · exact may_10 M s w h
    · exact may_11 M s w h
    · exact may_12 M s w h
    · exact may_13 M s w h
    · exact may_14 M s w h
  · unfold mayCall
    rw [may_other hk]
    have HI := Lib.hid (innermost_pro M s w h)
    obtain ⟨t, ht⟩ : ∃ t, topL s = t := ⟨_, rfl⟩
    rw [ht] at HI
    unfold lvVal at HI
    have k1 : (k == 1) = false := by simp; omega
    have k2 : (k == 2) = false := by simp; omega
    have k3 : (k == 3) = false := by simp; omega
    have k4 : (k == 4) = false := by simp; omega
    have k5 : (k == 5) = false := by simp; omega
    have k6 : (k == 6) = false := by simp; omega
    have k7 : (k == 7) = false := by simp; omega
    have k8 : (k == 8) = false := by simp; omega
    have k9 : (k == 9) = false := by simp; omega
    have k10 : (k == 10) = false := by simp; omega
    have k11 : (k == 11) = false := by simp; omega
    have k12 : (k == 12) = false := by simp; omega
    have k13 : (k == 13) = false := by simp; omega
    have k14 : (k == 14) = false := by simp; omega
    clear h ht hk
    go_enter Tryz.func63, Tryz.ntmps63
    go_wp2_with fail
    refine HI.out.mono ?_
    rintro e w1 ⟨rfl, hb⟩
    have HB1 := Lib.hid (hb.alloc hb.size (lvCells t))
    dsimp only [lvCells] at HB1
    clear hb
    go_wp2_with fail
    go_ret
    exact ⟨rfl, HB1.out⟩
end Go.Proofs.YtdagombmgcnofaaGreatDoor.Ir
