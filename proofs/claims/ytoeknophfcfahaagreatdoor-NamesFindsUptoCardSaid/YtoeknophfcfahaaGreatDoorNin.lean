/- The reference's comparison of two lists of numbers. -/
import Derived.Test.YtoeknophfcfahaaGreatDoorNcp
import Derived.Lib.QuietBelow
namespace Go.Proofs.YtoeknophfcfahaaGreatDoor
open Go.RowKit Go.Maps Go.Sort
set_option linter.unusedVariables false
theorem RdI.form {w : World} {v : Value} {xs : List Nat} (h : RdI w v xs) : ∃ (pa : Option Addr) (cap : Nat), v = .slice pa xs.length cap := by
  obtain ⟨pa, cap, e, _⟩ := h
  exact ⟨pa, cap, e⟩
set_option maxRecDepth 100000 in
set_option maxHeartbeats 4000000 in
theorem ints_ref (zs : List Nat) (v u : Value) (w : World) (hv : RdI w v zs) (hu : RdI w u zs) (hz : zs.length ≤ 1000) : Calls Tryz.prog 10 #[v, u] w (Says (.bool true) w) := by
  obtain ⟨pa, ca, rfl⟩ := hv.form
  obtain ⟨pb, cb, rfl⟩ := hu.form
  have HV := Lib.hid hv
  have HU := Lib.hid hu
  have HZ := Lib.hid hz
  obtain ⟨n, hn⟩ : ∃ n, zs.length = n := ⟨_, rfl⟩
  have HN := Lib.hid hn
  rw [hn]
  rw [hn] at HV HU
  clear hv hu hz hn
  go_enter Tryz.func10, Tryz.ntmps10
  go_wp2_with fail
  go_loopw [13] (fun j wr => ∃ k : Nat, j = .int .i64 k ∧ k ≤ n ∧ Below w.heap.size w wr) (fun j _ => n - (intOf j).toNat)
  case atStart => exact ⟨0, rfl, Nat.zero_le _, Below.refl _ _⟩
  case round =>
    obtain ⟨k, rfl, hk, hB⟩ := hrel
    have HB := Lib.hid hB
    by_cases hlt : k < n
    · have hkz : k < zs.length := by rw [HN.out]; exact hlt
      obtain ⟨b1, o1, rfl, c1⟩ := (HV.out.below hB).cell hkz
      obtain ⟨b2, o2, rfl, c2⟩ := (HU.out.below hB).cell hkz
      have kr1 := cell_regrown c1
      have kr2 := cell_regrown c2
      have mixed : Tryz.prog.follows .mixedOrders = true := by kernel_rfl
      obtain ⟨d, hd⟩ : ∃ d, zs[k] = d := ⟨_, rfl⟩
      rw [hd] at kr1 kr2
      have k1 : (k : Int) < n := by omega
      have hzz := HZ.out
      have hnn := HN.out
      clear hB c1 c2 hd
      go_wp2_with fail
      refine wp_region_quiet_below (by assumption) (by kernel_rfl) ?_
      repeat (quiet_step (fail))
      refine wpQuiet_nil ?_
      intro _ hw'
      obtain ⟨⟨dq, osq⟩, hw''⟩ := hw'
      subst hw''
      have HB6 := Lib.hid (HB.out.trans ((below_regrown wr dq osq).mono HB.out.size))
      clear kr1 kr2
      go_wp2_with fail
      go_roundw
      case measure => simp [intOf]; omega
      case rel => exact ⟨k + 1, by go_num, by omega, HB6.out⟩
    · obtain rfl : k = n := by omega
      have hlz : ¬ ((k : Int) < k) := by omega
      clear hB hlt
      go_wp2_with fail
      go_ret
      exact ⟨rfl, HB.out⟩
end Go.Proofs.YtoeknophfcfahaaGreatDoor
