/- The law's same, look, styles; the document's Base, Then, Apply. -/
import Derived.Test.YtceanagnkcejgaaGreatDoorS1
namespace Go.Proofs.YtceanagnkcejgaaGreatDoor
open Go.RowKit
set_option linter.unusedVariables false

set_option maxRecDepth 100000 in
set_option maxHeartbeats 1000000 in
theorem same_law (a : Chg) (w : World) : Calls Tryz.prog 20 #[chgVal a, chgVal a] w (Says (.bool true) w) := by
  unfold chgVal
  go_enter Tryz.func20, Tryz.ntmps20
  go_wp2_with fail
  go_ret
  exact ⟨rfl, ((Below.refl _ w).alloc (Nat.le_refl _) _).alloc (by simp) _⟩
set_option maxRecDepth 100000 in
set_option maxHeartbeats 1000000 in
theorem look_law (a : Lk) (w : World) : Calls Tryz.prog 23 #[lkVal a, lkVal a] w (Says (.bool true) w) := by
  unfold lkVal
  go_enter Tryz.func23, Tryz.ntmps23
  go_wp2_with fail
  go_ret
  exact ⟨rfl, ((Below.refl _ w).alloc (Nat.le_refl _) _).alloc (by simp) _⟩
set_option maxRecDepth 100000 in
set_option maxHeartbeats 1000000 in
theorem styles_law (a : Sty) (w : World) : Calls Tryz.prog 11 #[styVal a, styVal a] w (Says (.bool true) w) := by
  unfold styVal
  go_enter Tryz.func11, Tryz.ntmps11
  go_wp2_with fail
  refine (same_law a.ch _).mono ?_
  rintro e w1 ⟨rfl, b⟩
  have B := Lib.hid ((((Below.refl _ w).alloc (Nat.le_refl _) _).alloc (by simp) _).trans (b.mono (by simp; omega)))
  clear b
  go_wp2_with fail
  go_ret
  exact ⟨rfl, B.out⟩
set_option maxRecDepth 100000 in
set_option maxHeartbeats 1000000 in
theorem base_ref (w : World) : Calls Tryz.prog 9 #[] w (MakesSh baseL w) := by
  go_enter Tryz.func9, Tryz.ntmps9
  go_wp2_with fail
  go_ret
  exact ⟨_, rfl, World.ownsRow_lit (e := 29) (size := 5) (base := w.heap.size) w _ 6 (Nat.le_refl _) (by unfold maxLen; omega) rfl, (Below.refl _ w).alloc (Nat.le_refl _) _⟩
set_option maxRecDepth 100000 in
set_option maxHeartbeats 1000000 in
theorem then_ref (a b : Chg) (w : World) : Calls Tryz.prog 57 #[chgVal a, chgVal b] w (Says (chgVal (thenC a b)) w) := by
  unfold chgVal
  by_cases h : b.col = -1
  · have t : (b.col != -1) = false := by simpa using h
    have e : overI a.col b.col = a.col := by unfold overI; rw [if_pos h]
    have HE := Lib.hid e
    clear h e
    go_enter Tryz.func57, Tryz.ntmps57
    go_wp2_with fail
    exact bodyPost_ret (v := chgVal (thenC a b)) (by simp [results, Tryz.results57, go_sem, chgVal, thenC, HE.out]) rfl ⟨rfl, ((((Below.refl _ w).alloc (Nat.le_refl _) _).alloc (by simp) _).alloc (by simp; omega) _).alloc (by simp; omega) _⟩
  · have t : (b.col != -1) = true := by simpa using h
    have e : overI a.col b.col = b.col := by unfold overI; rw [if_neg h]
    have HE := Lib.hid e
    clear h e
    go_enter Tryz.func57, Tryz.ntmps57
    go_wp2_with fail
    exact bodyPost_ret (v := chgVal (thenC a b)) (by simp [results, Tryz.results57, go_sem, chgVal, thenC, HE.out]) rfl ⟨rfl, ((((Below.refl _ w).alloc (Nat.le_refl _) _).alloc (by simp) _).alloc (by simp; omega) _).alloc (by simp; omega) _⟩
set_option maxRecDepth 100000 in
set_option maxHeartbeats 1000000 in
theorem apply_ref (l : Lk) (c : Chg) (w : World) : Calls Tryz.prog 38 #[lkVal l, chgVal c] w (Says (lkVal (applyL l c)) w) := by
  unfold chgVal lkVal
  by_cases h : c.col = -1
  · have t : (c.col != -1) = false := by simpa using h
    have e : overI l.col c.col = l.col := by unfold overI; rw [if_pos h]
    have HE := Lib.hid e
    clear h e
    go_enter Tryz.func38, Tryz.ntmps38
    go_wp2_with fail
    exact bodyPost_ret (v := lkVal (applyL l c)) (by simp [results, Tryz.results38, go_sem, lkVal, applyL, HE.out]) rfl ⟨rfl, (((Below.refl _ w).alloc (Nat.le_refl _) _).alloc (by simp) _).alloc (by simp; omega) _⟩
  · have t : (c.col != -1) = true := by simpa using h
    have e : overI l.col c.col = c.col := by unfold overI; rw [if_neg h]
    have HE := Lib.hid e
    clear h e
    go_enter Tryz.func38, Tryz.ntmps38
    go_wp2_with fail
    exact bodyPost_ret (v := lkVal (applyL l c)) (by simp [results, Tryz.results38, go_sem, lkVal, applyL, HE.out]) rfl ⟨rfl, (((Below.refl _ w).alloc (Nat.le_refl _) _).alloc (by simp) _).alloc (by simp; omega) _⟩
end Go.Proofs.YtceanagnkcejgaaGreatDoor
