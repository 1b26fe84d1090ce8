/- Layer 12: the law's columns: alike. -/
import Derived.Test.YtadecjjbpoaooaaUs
import Derived.Test.YtadecjjbpoaooaaVb
import Derived.Deep.CutRange
import Derived.Test.YtadecjjbpoaooaaUp
namespace Go.Proofs.Ytadecjjbpoaooaa.Tb
open Go.RowKit Go.Maps
set_option linter.unusedVariables false
set_option linter.unusedSimpArgs false
set_option maxRecDepth 100000 in
set_option maxHeartbeats 2000000 in
theorem columns_law {P Q : Nat → Prop} (cs : List (Int × Int)) (v u : Value) (w : World) (h : RdC P w v cs) (hu : RdC Q w u cs) : Calls Try.prog 9 #[v, u] w (SaysL (.bool true) w) := by
  obtain ⟨pa, ca, rfl, h1, h2⟩ := sliceC h
  obtain ⟨pb, cb, rfl, h3, h4⟩ := sliceC hu
  have HA := Lib.hid h
  have HU := Lib.hid hu
  obtain ⟨n, hn⟩ : ∃ n, cs.length = n := ⟨_, rfl⟩
  have HN := Lib.hid hn
  rw [hn] at HA HU h1 h3 ⊢
  have hn62 : n ≤ 9223372036854775807 := by omega
  have t0 : ((n : Int) != (n : Int)) = false := by simp
  clear h hu hn h1 h3
  go_enter Try.func9, Try.ntmps9
  go_wp2_with fail
  go_loopw [5] (fun i wr => ∃ (k : Nat), i = .int .i64 k ∧ k ≤ n ∧ Hid (Below w.heap.size w wr)) (fun i _ => n - (intOf i).toNat)
  case atStart => exact ⟨0, rfl, Nat.zero_le _, Lib.hid (Below.refl _ _)⟩
  case round =>
    obtain ⟨k, rfl, hk, HB⟩ := hrel
    by_cases hlt : k < n
    · have hkl : k < cs.length := by rw [HN.out]; exact hlt
      obtain ⟨b1, o1, rfl, _, c0, c1⟩ := (HA.out.below HB.out).cell hkl
      obtain ⟨b2, o2, rfl, _, d0, d1⟩ := (HU.out.below HB.out).cell hkl
      obtain ⟨c, hc⟩ : ∃ c, cs[k] = c := ⟨_, rfl⟩
      rw [hc] at c0 c1 d0 d1
      have t1 : (c.1 != c.1) = false := by simp
      have t2 : (c.2 != c.2) = false := by simp
      have k1 : (k : Int) < n := by omega
      have HLT := Lib.hid hlt

      clear hc
      go_upto_region 6 with fail
      go_quiet (fail)
      have HBD := Lib.hid (dn_below HB.out nq)
      go_wp2_with fail
      go_roundw
      case measure => have := HLT.out; simp [intOf]; omega
      case rel => exact ⟨k + 1, by go_num, HLT.out, HBD⟩
    · obtain rfl : k = n := by omega
      have hzk : ¬ (k : Int) < k := by omega
      clear hlt
      go_wp2_with fail
      go_ret
      exact ⟨rfl, HB.out⟩
end Go.Proofs.Ytadecjjbpoaooaa.Tb
