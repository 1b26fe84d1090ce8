/- Layer 11: the document's Same of like operations. -/
import Derived.Test.YtdagombmgcnofaaGreatDoorIs
import Derived.BigRegion
namespace Go.Proofs.YtdagombmgcnofaaGreatDoor.Ir
open Go.RowKit Go.Maps Go.Proofs.YtdagombmgcnofaaGreatDoor
set_option linter.unusedVariables false
set_option linter.unusedSimpArgs false
def boxO (x : Opr) (p : Option Addr) (z c : Nat) : Obj := .cells #[.int .i64 x.k, .int .i64 x.n, .string x.t, .slice p z c] 81
set_option maxRecDepth 100000 in
set_option maxHeartbeats 4000000 in
theorem same_ref {P Q : Nat → Prop} (l : List Opr) (v u : Value) (w : World) (hv : RdO P w v l) (hu : RdO Q w u l) : Calls Tryz.prog 17 #[v, u] w (SaysL (.bool true) w) := by
  obtain ⟨pa, ca, rfl, hc1, hc2⟩ := sliceN hv
  obtain ⟨pb, cb, rfl, _, _⟩ := sliceN hu
  have HV := Lib.hid hv
  have HU := Lib.hid hu
  obtain ⟨n, hn⟩ : ∃ n, l.length = n := ⟨_, rfl⟩
  have HN := Lib.hid hn
  rw [hn] at HV HU hc1 ⊢
  have hn62 : n ≤ 9223372036854775807 := by omega
  have t0 : ((n : Int) != (n : Int)) = false := by simp
  have mixed : Tryz.prog.follows .mixedOrders = true := by kernel_rfl
  clear hv hu hn hc1
  go_enter Tryz.func17, Tryz.ntmps17
  go_wp2_with fail
  go_loopw [16] (fun i wr => ∃ k : Nat, i = .int .i64 k ∧ k ≤ n ∧ Hid (Below w.heap.size w wr)) (fun i _ => n - (intOf i).toNat)
  case atStart => exact ⟨0, rfl, Nat.zero_le _, Lib.hid (Below.refl _ _)⟩
  case round =>
    obtain ⟨k, rfl, hk, HB⟩ := hrel
    by_cases hlt : k < n
    · have hkl : k < l.length := by rw [HN.out]; exact hlt
      obtain ⟨b1, o1, rfl, c0, c1, c2, wv1, c3, hz1⟩ := (HV.out.below HB.out).at_ hkl
      obtain ⟨b2, o2, rfl, e0, e1, e2, wv2, e3, hz2⟩ := (HU.out.below HB.out).at_ hkl
      obtain ⟨p1, q1, rfl, u1, u2⟩ := hz1.form
      obtain ⟨p2, q2, rfl, u3, u4⟩ := hz2.form
      obtain ⟨x, hx⟩ : ∃ x, l[k] = x := ⟨_, rfl⟩
      rw [hx] at c0 c1 c2 c3 e0 e1 e2 e3 hz1 hz2
      obtain ⟨z, hzl⟩ : ∃ z, x.w.length = z := ⟨_, rfl⟩
      rw [hzl] at c3 e3 hz1 hz2
      have HZL := Lib.hid hzl
      have HZ1 := Lib.hid hz1
      have HZ2 := Lib.hid hz2
      have k1 : (k : Int) < n := by omega
      have hb1 : b1 < wr.heap.size := cellInL c0
      have hb2 : b2 < wr.heap.size := cellInL e0
      have HLT := Lib.hid hlt
      have z62 : z ≤ 9223372036854775807 := by have := hz1.form; obtain ⟨_, _, e, h5, h6⟩ := this; rw [hzl] at h5; unfold maxLen at h6; omega
      have t1 : (x.k != x.k) = false := by simp
      have t2 : (x.n != x.n) = false := by simp
      have t3 : (x.t.toList != x.t.toList) = false := by simp
      have t3' : (x.t.toList == x.t.toList) = true := by simp
      have t4 : ((z : Int) != (z : Int)) = false := by simp
      clear hx hzl hz1 hz2 u1 u2 u3 u4
      go_wp2_with fail
      go_region
      · have hbW : Below wr.heap.size wr ((wr.alloc (.cells #[.int .i64 x.k, .int .i64 x.n, .string x.t, .slice p1 z q1] 81)).alloc (.cells #[.int .i64 x.k, .int .i64 x.n, .string x.t, .slice p2 z q2] 81)) := ((Below.refl _ wr).alloc (Nat.le_refl _) _).alloc (by simp) _
        obtain ⟨W2, hW2⟩ : ∃ W2, (wr.alloc (.cells #[.int .i64 x.k, .int .i64 x.n, .string x.t, .slice p1 z q1] 81)).alloc (.cells #[.int .i64 x.k, .int .i64 x.n, .string x.t, .slice p2 z q2] 81) = W2 := ⟨_, rfl⟩
        have x6 := heap_alloc_new wr (.cells #[.int .i64 x.k, .int .i64 x.n, .string x.t, .slice p1 z q1] 81)
        have x7 := heap_alloc_new (wr.alloc (.cells #[.int .i64 x.k, .int .i64 x.n, .string x.t, .slice p1 z q1] 81)) (.cells #[.int .i64 x.k, .int .i64 x.n, .string x.t, .slice p2 z q2] 81)
        rw [hW2] at hbW x7
        have x6' : W2.heap[wr.heap.size]? = some (.cells #[.int .i64 x.k, .int .i64 x.n, .string x.t, .slice p1 z q1] 81) := by rw [← hW2, Below.heap_alloc _ _ _ (Array.getElem?_eq_some_iff.1 x6).1]; exact x6
        rw [show (wr.alloc (.cells #[.int .i64 x.k, .int .i64 x.n, .string x.t, .slice p1 z q1] 81)).heap.size = wr.heap.size + 1 by simp] at x7
        have H6 := Lib.hid x6'
        have H7 := Lib.hid x7
        have HW := Lib.hid hbW
        have HR := Lib.hid (show Below W2.heap.size W2 W2.drew from ⟨rfl, rfl, rfl, Nat.le_refl _, fun _ _ => rfl⟩)
        obtain ⟨a0, a1, a2, a3⟩ : W2.cell? ⟨wr.heap.size, 0, none⟩ = some (.int .i64 x.k) ∧ W2.cell? ⟨wr.heap.size, 1, none⟩ = some (.int .i64 x.n) ∧ W2.cell? ⟨wr.heap.size, 2, none⟩ = some (.string x.t) ∧ W2.cell? ⟨wr.heap.size, 3, none⟩ = some (.slice p1 z q1) := by
          refine ⟨?_, ?_, ?_, ?_⟩ <;> rw [cell_of_row _ _ _ _ _ _ H6.out] <;> rfl
        obtain ⟨d0, d1, d2, d3⟩ : W2.cell? ⟨wr.heap.size + 1, 0, none⟩ = some (.int .i64 x.k) ∧ W2.cell? ⟨wr.heap.size + 1, 1, none⟩ = some (.int .i64 x.n) ∧ W2.cell? ⟨wr.heap.size + 1, 2, none⟩ = some (.string x.t) ∧ W2.cell? ⟨wr.heap.size + 1, 3, none⟩ = some (.slice p2 z q2) := by
          refine ⟨?_, ?_, ?_, ?_⟩ <;> rw [cell_of_row _ _ _ _ _ _ H7.out] <;> rfl
        have HWE := Lib.hid hW2
        clear x6 x7 x6' hbW hW2
        go_wp2_with fail
        obtain ⟨wo, rfl⟩ : ∃ wo : World, wo = wr := ⟨_, rfl⟩
        go_loopw [58] (fun i w3 => ∃ j : Nat, i = .int .i64 j ∧ j ≤ z ∧ Hid (Below W2.heap.size W2 w3)) (fun i _ => z - (intOf i).toNat)
        case atStart => exact ⟨0, rfl, Nat.zero_le _, Lib.hid (by first | exact HR.out | (rw [HWE.out]; exact HR.out))⟩
        case round =>
          obtain ⟨j, rfl, hj, HB3⟩ := hrel
          by_cases hj1 : j < z
          · have hjx : j < x.w.length := by rw [HZL.out]; exact hj1
            obtain ⟨g1, f1, rfl, m1⟩ := ((HZ1.out.below HW.out).below HB3.out).cell hjx
            obtain ⟨g2, f2, rfl, m2⟩ := ((HZ2.out.below HW.out).below HB3.out).cell hjx
            have kr1 := cell_regrown m1
            have kr2 := cell_regrown m2
            have kr3 := cell_regrown ((HB3.out.cell (p := ⟨wo.heap.size, 3, none⟩) (cellInL a3)).trans a3)
            have kr4 := cell_regrown ((HB3.out.cell (p := ⟨wo.heap.size + 1, 3, none⟩) (cellInL d3)).trans d3)
            obtain ⟨y, hy⟩ : ∃ y, x.w[j] = y := ⟨_, rfl⟩
            rw [hy] at kr1 kr2
            have y1 : (y != y) = false := by simp
            have hjz : (j : Int) < z := by omega
            have HJ := Lib.hid hj1
            clear m1 m2 hy hjx
            go_wp2_with fail
            refine wp_region_quiet_below mixed (by kernel_rfl) ?_
            repeat (quiet_step (fail))
            refine wpQuiet_nil ?_
            intro _ hw'
            obtain ⟨⟨dq, osq⟩, hw''⟩ := hw'
            subst hw''
            have HB6 := Lib.hid (HB3.out.trans ((below_regrown wr dq osq).mono HB3.out.size))
            clear kr1 kr2 kr3 kr4
            go_wp2_with fail
            go_roundw
            case measure => have := HJ.out; simp [intOf]; omega
            case rel => exact ⟨j + 1, by go_num, HJ.out, HB6⟩
          · obtain rfl : j = z := by omega
            have hjz : ¬ (j : Int) < j := by omega
            have HB7 := Lib.hid (HB.out.trans (HW.out.mono HB.out.size))
            have HB8 := Lib.hid (HB7.out.trans (HB3.out.mono HB7.out.size))
            clear hj1
            go_wp2_with fail
            go_roundw
            case measure => have := HLT.out; simp [intOf]; omega
            case rel => exact ⟨k + 1, by go_num, HLT.out, HB8⟩
      · have hbW : Below wr.heap.size wr ((wr.alloc (.cells #[.int .i64 x.k, .int .i64 x.n, .string x.t, .slice p2 z q2] 81)).alloc (.cells #[.int .i64 x.k, .int .i64 x.n, .string x.t, .slice p1 z q1] 81)) := ((Below.refl _ wr).alloc (Nat.le_refl _) _).alloc (by simp) _
        obtain ⟨W2, hW2⟩ : ∃ W2, (wr.alloc (.cells #[.int .i64 x.k, .int .i64 x.n, .string x.t, .slice p2 z q2] 81)).alloc (.cells #[.int .i64 x.k, .int .i64 x.n, .string x.t, .slice p1 z q1] 81) = W2 := ⟨_, rfl⟩
        have x6 := heap_alloc_new wr (.cells #[.int .i64 x.k, .int .i64 x.n, .string x.t, .slice p2 z q2] 81)
        have x7 := heap_alloc_new (wr.alloc (.cells #[.int .i64 x.k, .int .i64 x.n, .string x.t, .slice p2 z q2] 81)) (.cells #[.int .i64 x.k, .int .i64 x.n, .string x.t, .slice p1 z q1] 81)
        rw [hW2] at hbW x7
        have x6' : W2.heap[wr.heap.size]? = some (.cells #[.int .i64 x.k, .int .i64 x.n, .string x.t, .slice p2 z q2] 81) := by rw [← hW2, Below.heap_alloc _ _ _ (Array.getElem?_eq_some_iff.1 x6).1]; exact x6
        rw [show (wr.alloc (.cells #[.int .i64 x.k, .int .i64 x.n, .string x.t, .slice p2 z q2] 81)).heap.size = wr.heap.size + 1 by simp] at x7
        have H6 := Lib.hid x7
        have H7 := Lib.hid x6'
        have HW := Lib.hid hbW
        have HR := Lib.hid (show Below W2.heap.size W2 W2.drew from ⟨rfl, rfl, rfl, Nat.le_refl _, fun _ _ => rfl⟩)
        obtain ⟨a0, a1, a2, a3⟩ : W2.cell? ⟨wr.heap.size + 1, 0, none⟩ = some (.int .i64 x.k) ∧ W2.cell? ⟨wr.heap.size + 1, 1, none⟩ = some (.int .i64 x.n) ∧ W2.cell? ⟨wr.heap.size + 1, 2, none⟩ = some (.string x.t) ∧ W2.cell? ⟨wr.heap.size + 1, 3, none⟩ = some (.slice p1 z q1) := by
          refine ⟨?_, ?_, ?_, ?_⟩ <;> rw [cell_of_row _ _ _ _ _ _ H6.out] <;> rfl
        obtain ⟨d0, d1, d2, d3⟩ : W2.cell? ⟨wr.heap.size, 0, none⟩ = some (.int .i64 x.k) ∧ W2.cell? ⟨wr.heap.size, 1, none⟩ = some (.int .i64 x.n) ∧ W2.cell? ⟨wr.heap.size, 2, none⟩ = some (.string x.t) ∧ W2.cell? ⟨wr.heap.size, 3, none⟩ = some (.slice p2 z q2) := by
          refine ⟨?_, ?_, ?_, ?_⟩ <;> rw [cell_of_row _ _ _ _ _ _ H7.out] <;> rfl
        have HWE := Lib.hid hW2
        clear x6 x7 x6' hbW hW2
        go_wp2_with fail
        obtain ⟨wo, rfl⟩ : ∃ wo : World, wo = wr := ⟨_, rfl⟩
        go_loopw [58] (fun i w3 => ∃ j : Nat, i = .int .i64 j ∧ j ≤ z ∧ Hid (Below W2.heap.size W2 w3)) (fun i _ => z - (intOf i).toNat)
        case atStart => exact ⟨0, rfl, Nat.zero_le _, Lib.hid (by first | exact HR.out | (rw [HWE.out]; exact HR.out))⟩
        case round =>
          obtain ⟨j, rfl, hj, HB3⟩ := hrel
          by_cases hj1 : j < z
          · have hjx : j < x.w.length := by rw [HZL.out]; exact hj1
            obtain ⟨g1, f1, rfl, m1⟩ := ((HZ1.out.below HW.out).below HB3.out).cell hjx
            obtain ⟨g2, f2, rfl, m2⟩ := ((HZ2.out.below HW.out).below HB3.out).cell hjx
            have kr1 := cell_regrown m1
            have kr2 := cell_regrown m2
            have kr3 := cell_regrown ((HB3.out.cell (p := ⟨wo.heap.size + 1, 3, none⟩) (cellInL a3)).trans a3)
            have kr4 := cell_regrown ((HB3.out.cell (p := ⟨wo.heap.size, 3, none⟩) (cellInL d3)).trans d3)
            obtain ⟨y, hy⟩ : ∃ y, x.w[j] = y := ⟨_, rfl⟩
            rw [hy] at kr1 kr2
            have y1 : (y != y) = false := by simp
            have hjz : (j : Int) < z := by omega
            have HJ := Lib.hid hj1
            clear m1 m2 hy hjx
            go_wp2_with fail
            refine wp_region_quiet_below mixed (by kernel_rfl) ?_
            repeat (quiet_step (fail))
            refine wpQuiet_nil ?_
            intro _ hw'
            obtain ⟨⟨dq, osq⟩, hw''⟩ := hw'
            subst hw''
            have HB6 := Lib.hid (HB3.out.trans ((below_regrown wr dq osq).mono HB3.out.size))
            clear kr1 kr2 kr3 kr4
            go_wp2_with fail
            go_roundw
            case measure => have := HJ.out; simp [intOf]; omega
            case rel => exact ⟨j + 1, by go_num, HJ.out, HB6⟩
          · obtain rfl : j = z := by omega
            have hjz : ¬ (j : Int) < j := by omega
            have HB7 := Lib.hid (HB.out.trans (HW.out.mono HB.out.size))
            have HB8 := Lib.hid (HB7.out.trans (HB3.out.mono HB7.out.size))
            clear hj1
            go_wp2_with fail
            go_roundw
            case measure => have := HLT.out; simp [intOf]; omega
            case rel => exact ⟨k + 1, by go_num, HLT.out, HB8⟩
    · obtain rfl : k = n := by omega
      have hz1 : ¬ (k : Int) < k := by omega
      clear hlt
      go_wp2_with fail
      go_ret
      exact ⟨rfl, HB.out⟩
end Go.Proofs.YtdagombmgcnofaaGreatDoor.Ir
