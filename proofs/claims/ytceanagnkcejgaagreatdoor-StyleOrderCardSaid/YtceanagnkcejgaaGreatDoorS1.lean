/- Changes of the program: over, Then, Apply. -/
import Derived.Test.YtceanagnkcejgaaGreatDoorSh
import Derived.StillTailTactics
import Derived.BigRegion
import Derived.BigQuiet
import Derived.Deep.QuietTactic
namespace Go.Proofs.YtceanagnkcejgaaGreatDoor
open Go.RowKit
set_option linter.unusedVariables false

theorem over_pro (c d : Int) (w : World) : Calls Tryz.prog 53 #[.int .i64 c, .int .i64 d] w fun e w' => e = .returned (.int .i64 (overI c d)) ∧ w = w' := by
  by_cases h : d = -1
  · have t : (d == -1) = true := by simpa using h
    have e : overI c d = c := by unfold overI; rw [if_pos h]
    have HE := Lib.hid e
    clear h e
    go_enter Tryz.func53, Tryz.ntmps53
    go_wp2_with fail
    go_ret
    rw [HE.out]
    exact ⟨rfl, rfl⟩
  · have t : (d == -1) = false := by simpa using h
    have e : overI c d = d := by unfold overI; rw [if_neg h]
    have HE := Lib.hid e
    clear h e
    go_enter Tryz.func53, Tryz.ntmps53
    go_wp2_with fail
    go_ret
    rw [HE.out]
    exact ⟨rfl, rfl⟩
theorem over_same (c d : Int) (w : World) : Calls Tryz.prog 53 #[.int .i64 c, .int .i64 d] w fun e w' => e = .returned (.int .i64 (overI c d)) ∧ w' = w := (over_pro c d w).mono fun _ _ ⟨h1, h2⟩ => ⟨h1, h2.symm⟩
set_option maxRecDepth 100000 in
set_option maxHeartbeats 1000000 in
theorem then_pro (a b : Chg) (w : World) : Calls Tryz.prog 56 #[chgVal a, chgVal b] w (Says (chgVal (thenC a b)) w) := by
  unfold chgVal
  go_enter Tryz.func56, Tryz.ntmps56
  go_wp2_with fail
  refine wp_region_still_tail 22 (by kernel_rfl) (by kernel_rfl) ?_
  simp only [List.take_succ_cons, List.take_zero, List.drop_succ_cons, List.drop_zero]
  change wpStill Tryz.prog _ (World.drew _) _ _ _
  repeat still_step
  still_call (over_same _ _ _)
  repeat still_step
  refine wpStill_nil ?_
  change wpList _ _ _ _ _ (World.drew _)
  go_wp2_with fail
  exact bodyPost_ret (v := chgVal (thenC a b)) (by simp [results, Tryz.results56, go_sem, chgVal, thenC]) rfl ⟨rfl, ((((Below.refl _ w).alloc (Nat.le_refl _) _).alloc (by simp) _).alloc (by simp; omega) _).drew⟩
set_option maxRecDepth 100000 in
set_option maxHeartbeats 1000000 in
theorem apply_pro (l : Lk) (c : Chg) (w : World) : Calls Tryz.prog 28 #[lkVal l, chgVal c] w (Says (lkVal (applyL l c)) w) := by
  unfold chgVal lkVal
  go_enter Tryz.func28, Tryz.ntmps28
  go_wp2_with fail
  refine wp_region_still_tail 14 (by kernel_rfl) (by kernel_rfl) ?_
  simp only [List.take_succ_cons, List.take_zero, List.drop_succ_cons, List.drop_zero]
  change wpStill Tryz.prog _ (World.drew _) _ _ _
  repeat still_step
  still_call (over_same _ _ _)
  repeat still_step
  refine wpStill_nil ?_
  change wpList _ _ _ _ _ (World.drew _)
  go_wp2_with fail
  exact bodyPost_ret (v := lkVal (applyL l c)) (by simp [results, Tryz.results28, go_sem, lkVal, applyL]) rfl ⟨rfl, ((((Below.refl _ w).alloc (Nat.le_refl _) _).alloc (by simp) _).alloc (by simp; omega) _).drew⟩

def styRows (l : List Sty) : List Value := l.flatMap styRow
theorem styRows_len (l : List Sty) : (styRows l).length = l.length * 5 := by
  induction l with
  | nil => rfl
  | cons a l ih => simp [styRows, styRow] at ih ⊢; omega
theorem styRows_app (a b : List Sty) : styRows (a ++ b) = styRows a ++ styRows b := by simp [styRows]
theorem styRows_get : ∀ (l : List Sty) (i : Nat) (hi : i < l.length) (k : Nat) (u : Value), (styRow l[i])[k]? = some u → (styRows l)[i * 5 + k]? = some u
  | [], i, hi, k, u, h => by simp at hi
  | a :: l, 0, hi, k, u, h => by
    have hk : k < (styRow a).length := (List.getElem?_eq_some_iff.1 h).1
    have e : styRows (a :: l) = styRow a ++ styRows l := by simp [styRows]
    rw [e, Nat.zero_mul, Nat.zero_add, List.getElem?_append_left hk]
    exact h
  | a :: l, i + 1, hi, k, u, h => by
    have e : styRows (a :: l) = styRow a ++ styRows l := by simp [styRows]
    have hl : (styRow a).length = 5 := rfl
    rw [e, List.getElem?_append_right (by omega), hl, show (i + 1) * 5 + k - 5 = i * 5 + k by omega]
    exact styRows_get l i (by simpa using hi) k u (by simpa using h)
theorem styRow_one (s : Sty) : ∀ u ∈ styRow s, u.oneCell' = true := by
  intro u hu; simp [styRow] at hu; rcases hu with rfl | rfl | rfl | rfl | rfl <;> rfl
theorem styRows_one (l : List Sty) : ∀ u ∈ styRows l, u.oneCell' = true := by
  intro u hu
  obtain ⟨s, _, h⟩ := List.mem_flatMap.1 hu
  exact styRow_one s u h
theorem Sh.own {w : World} {base : Nat} {v : Value} {l : List Sty} (h : w.ownsRow base 29 5 v l.length (styRows l)) : Sh w v l := by
  rcases h.2 with ⟨rfl, h0⟩ | ⟨g, cap, cur, rfl, hb, hg, h1, h2, h3, h4⟩
  · have : l = [] := List.eq_nil_of_length_eq_zero h0
    subst this
    exact ⟨none, 0, rfl, Nat.le_refl _, Nat.zero_le _, fun i hi => absurd hi (by simp)⟩
  · refine ⟨_, cap, rfl, h1, h2, fun i hi => ⟨g, 0, rfl, fun k u hk => ?_⟩⟩
    have hk5 : k < 5 := by have := (List.getElem?_eq_some_iff.1 hk).1; simpa [styRow] using this
    have := World.ownsRow.cellAt h (i * 5 + k) (by omega)
    rw [Nat.zero_add, this]
    exact styRows_get l i hi k u hk
def MakesSh (l : List Sty) (w : World) (e : Ending) (w' : World) : Prop := ∃ v, e = .returned v ∧ w'.ownsRow w.heap.size 29 5 v l.length (styRows l) ∧ Below w.heap.size w w'
def baseL : List Sty := [⟨[98], [], ⟨1, 0, -1⟩⟩, ⟨[105], [], ⟨2, 0, -1⟩⟩, ⟨[117], [], ⟨4, 0, -1⟩⟩, ⟨[115], [], ⟨8, 0, -1⟩⟩, ⟨[109], [], ⟨16, 0, -1⟩⟩, ⟨[104], [], ⟨5, 0, -1⟩⟩]
theorem below_drewN' {B : Nat} {a w : World} (h : Below B a w) : Below B a w.drew := ⟨h.os, h.tape, h.output, h.size, h.block⟩
set_option maxRecDepth 100000 in
set_option maxHeartbeats 1000000 in
theorem basic_pro (x : ByteArray) (n : Int) (w : World) : Calls Tryz.prog 29 #[.string x, .int .i64 n] w (Says (.agg #[.string x, .string ⟨#[]⟩, .int .i64 n, .int .i64 0, .int .i64 (-1)]) w) := by
  go_enter Tryz.func29, Tryz.ntmps29
  go_wp2_with fail
  exact bodyPost_ret (v := .agg #[.string x, .string ⟨#[]⟩, .int .i64 n, .int .i64 0, .int .i64 (-1)]) (by simp [results, Tryz.results29, go_sem]; try rfl) rfl ⟨rfl, (Below.refl _ w).alloc (Nat.le_refl _) _⟩
set_option maxRecDepth 100000 in
set_option maxHeartbeats 1000000 in
theorem base_pro (w : World) : Calls Tryz.prog 8 #[] w (MakesSh baseL w) := by
  go_enter Tryz.func8, Tryz.ntmps8
  go_wp2_with fail
  refine (basic_pro _ _ _).mono ?_
  rintro e w1 ⟨rfl, b1⟩
  have B1 := Lib.hid b1
  clear b1
  go_wp2_with fail
  refine (basic_pro _ _ _).mono ?_
  rintro e w2 ⟨rfl, b⟩
  have B2 := Lib.hid (B1.out.trans (b.mono B1.out.size))
  clear b
  go_wp2_with fail
  refine (basic_pro _ _ _).mono ?_
  rintro e w3 ⟨rfl, b⟩
  have B3 := Lib.hid (B2.out.trans (b.mono B2.out.size))
  clear b
  go_wp2_with fail
  refine (basic_pro _ _ _).mono ?_
  rintro e w4 ⟨rfl, b⟩
  have B4 := Lib.hid (B3.out.trans (b.mono B3.out.size))
  clear b
  go_wp2_with fail
  refine (basic_pro _ _ _).mono ?_
  rintro e w5 ⟨rfl, b⟩
  have B5 := Lib.hid (B4.out.trans (b.mono B4.out.size))
  clear b
  go_wp2_with fail
  refine (basic_pro _ _ _).mono ?_
  rintro e w6 ⟨rfl, b⟩
  have B6 := Lib.hid (B5.out.trans (b.mono B5.out.size))
  clear b
  go_wp2_with fail
  go_ret
  exact ⟨_, rfl, World.ownsRow_lit (e := 29) (size := 5) (base := w.heap.size) w6 _ 6 B6.out.size (by unfold maxLen; omega) rfl, B6.out.alloc B6.out.size _⟩
end Go.Proofs.YtceanagnkcejgaaGreatDoor
