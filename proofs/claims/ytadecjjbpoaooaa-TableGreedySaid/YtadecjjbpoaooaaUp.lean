/- Layer 12: the document's Same, SameAll of like lines; the law's twin, twins, letters. -/
import Derived.Test.YtadecjjbpoaooaaUo
namespace Go.Proofs.Ytadecjjbpoaooaa.Tb
open Go.RowKit Go.Maps
set_option linter.unusedVariables false
set_option linter.unusedSimpArgs false
set_option maxRecDepth 100000 in
set_option maxHeartbeats 4000000 in
theorem same_ref {P Q : Nat → Prop} (l : List Gl) (va vb : Value) (w : World) (ha : RdG P w va l) (hb : RdG Q w vb l) :
    Calls Try.prog 16 #[va, vb] w (SaysL (.bool true) w) := by
  obtain ⟨pa, ca, rfl, hc1, hc2⟩ := sliceG ha
  obtain ⟨pb, cb, rfl, _, _⟩ := sliceG hb
  have HA := Lib.hid ha
  have HB := Lib.hid hb
  obtain ⟨n, hn⟩ : ∃ n, l.length = n := ⟨_, rfl⟩
  have HN := Lib.hid hn
  rw [hn] at HA HB hc1 ⊢
  have n62 : n ≤ 9223372036854775807 := by omega
  have t0 : ((n : Int) != (n : Int)) = false := by simp
  clear ha hb hn hc1
  go_enter Try.func16, Try.ntmps16
  go_wp2_with fail
  go_loopw [5] (fun iv wr => ∃ (k : Nat), iv = .int .i64 k ∧ k ≤ n ∧ Hid (Below w.heap.size w wr)) (fun iv _ => n - (intOf iv).toNat)
  case atStart => exact ⟨0, rfl, Nat.zero_le _, Lib.hid (Below.refl _ _)⟩
  case round =>
    obtain ⟨k, rfl, hk, HBR⟩ := hrel
    by_cases hlt : k < n
    · have hkl : k < l.length := by rw [HN.out]; exact hlt
      obtain ⟨b1, o1, rfl, _, hx1⟩ := (HA.out.below HBR.out).at_ hkl
      obtain ⟨b2, o2, rfl, _, hx2⟩ := (HB.out.below HBR.out).at_ hkl
      obtain ⟨x, hx⟩ : ∃ x, l[k] = x := ⟨_, rfl⟩
      rw [hx] at hx1 hx2
      obtain ⟨a0, a1, a2, a3, a4⟩ := hx1
      obtain ⟨e0, e1, e2, e3, e4⟩ := hx2
      have k1 : (k : Int) < n := by omega
      have t1 : (x.t.toList != x.t.toList) = false := by simp
      have t2 : (x.wd != x.wd) = false := by simp
      have t3 : (x.at_ != x.at_) = false := by simp
      have t4 : (x.co != x.co) = false := by simp
      have t5 : (x.lk != x.lk) = false := by simp
      have HLT := Lib.hid hlt
      clear hx hlt
      go_upto_region 6 with fail
      go_quiet (fail)
      have HB2 := Lib.hid (dn_below HBR.out nq)
      go_wp2_with fail
      go_roundw
      case measure => have := HLT.out; simp [intOf]; omega
      case rel => exact ⟨k + 1, by go_num, HLT.out, HB2⟩
    · obtain rfl : k = n := by omega
      have hzk : ¬ (k : Int) < k := by omega
      clear hlt
      go_wp2_with fail
      go_ret
      exact ⟨rfl, HBR.out⟩
set_option maxRecDepth 100000 in
set_option maxHeartbeats 4000000 in
theorem sameAll_ref {P Q : Nat → Prop} (ls : List (List Gl)) (va vb : Value) (w : World) (ha : RdL P w va ls) (hb : RdL Q w vb ls) :
    Calls Try.prog 23 #[va, vb] w (SaysL (.bool true) w) := by
  obtain ⟨pa, ca, rfl, hc1, hc2⟩ := ha.form
  obtain ⟨pb, cb, rfl, _, _⟩ := hb.form
  unfold maxLen at hc2
  have HA := Lib.hid ha
  have HB := Lib.hid hb
  obtain ⟨n, hn⟩ : ∃ n, ls.length = n := ⟨_, rfl⟩
  have HN := Lib.hid hn
  rw [hn] at HA HB hc1 ⊢
  have n62 : n ≤ 9223372036854775807 := by omega
  have t0 : ((n : Int) != (n : Int)) = false := by simp
  have mixed : Try.prog.follows .mixedOrders = true := by kernel_rfl
  clear ha hb hn hc1
  go_enter Try.func23, Try.ntmps23
  go_wp2_with fail
  go_loopw [5] (fun iv wr => ∃ (k : Nat), iv = .int .i64 k ∧ k ≤ n ∧ Hid (Below w.heap.size w wr)) (fun iv _ => n - (intOf iv).toNat)
  case atStart => exact ⟨0, rfl, Nat.zero_le _, Lib.hid (Below.refl _ _)⟩
  case round =>
    obtain ⟨k, rfl, hk, HBR⟩ := hrel
    by_cases hlt : k < n
    · have hkl : k < ls.length := by rw [HN.out]; exact hlt
      obtain ⟨b1, o1, p1, q1, rfl, _, a0, _, _, hx1⟩ := (HA.out.below HBR.out).at_ hkl
      obtain ⟨b2, o2, p2, q2, rfl, _, e0, _, _, hx2⟩ := (HB.out.below HBR.out).at_ hkl
      obtain ⟨x, hx⟩ : ∃ x, ls[k] = x := ⟨_, rfl⟩
      rw [hx] at hx1 hx2 a0 e0
      have k1 : (k : Int) < n := by omega
      have HLT := Lib.hid hlt
      have HX1 := Lib.hid hx1
      have HX2 := Lib.hid hx2
      obtain ⟨m, hm⟩ : ∃ m, x.length = m := ⟨_, rfl⟩
      rw [hm] at HX1 HX2 a0 e0
      have z0 := (show wr.drew.cell? ⟨b1, o1 + k, none⟩ = some (.slice p1 m q1) from a0)
      have z1 := (show wr.drew.cell? ⟨b2, o2 + k, none⟩ = some (.slice p2 m q2) from e0)
      have HS0 := Lib.hid (show wr.drew.cell? ⟨b1, o1 + k, none⟩ = some (.slice p1 m q1) ∧ wr.drew.cell? ⟨b2, o2 + k, none⟩ = some (.slice p2 m q2) ∧ Below wr.heap.size wr wr.drew from ⟨z0, z1, (Below.refl _ _).drew⟩)
      clear hx hlt hx1 hx2 hm a0 e0 z0 z1
      go_upto_region 6 with fail
      go_region_held3 (fun w' => w'.cell? ⟨b1, o1 + k, none⟩ = some (.slice p1 m q1) ∧ w'.cell? ⟨b2, o2 + k, none⟩ = some (.slice p2 m q2) ∧ Below wr.heap.size wr w')
        (first | exact HS0.out | exact ⟨(h8.cell (p := ⟨b1, o1 + k, none⟩) (cellInL (by assumption : _ ∧ _ ∧ Below wr.heap.size wr _).1)).trans (by assumption : _ ∧ _ ∧ Below wr.heap.size wr _).1, (h8.cell (p := ⟨b2, o2 + k, none⟩) (cellInL (by assumption : _ ∧ _ ∧ Below wr.heap.size wr _).2.1)).trans (by assumption : _ ∧ _ ∧ Below wr.heap.size wr _).2.1, (by assumption : _ ∧ _ ∧ Below wr.heap.size wr _).2.2.trans (h8.mono (by assumption : _ ∧ _ ∧ Below wr.heap.size wr _).2.2.size)⟩ | assumption)
        ((first
          | (go_at_call 16; refine (same_ref x _ _ _ (HX1.out.below ((by assumption : _ ∧ _ ∧ Below wr.heap.size wr _).2.2)) (HX2.out.below ((by assumption : _ ∧ _ ∧ Below wr.heap.size wr _).2.2))).mono ?_; rintro e w8 ⟨rfl, h8⟩)))
      have h9 : Below wr.heap.size wr w8 := (by assumption : _ ∧ _ ∧ Below wr.heap.size wr w8).2.2
      have HB2 := Lib.hid (HBR.out.trans (h9.mono HBR.out.size))
      clear h9
      go_wp2_with fail
      go_roundw
      case measure => have := HLT.out; simp [intOf]; omega
      case rel => exact ⟨k + 1, by go_num, HLT.out, HB2⟩
    · obtain rfl : k = n := by omega
      have hzk : ¬ (k : Int) < k := by omega
      clear hlt
      go_wp2_with fail
      go_ret
      exact ⟨rfl, HBR.out⟩
end Go.Proofs.Ytadecjjbpoaooaa.Tb
