/- Layer 13: the document's Same. -/
import Derived.Test.YtjohhahfpgfjdaaGreatDoorK7
import Derived.Deep.RegionHeld3
namespace Go.Proofs.YtjohhahfpgfjdaaGreatDoor.Tb
open Go.RowKit Go.Maps
set_option linter.unusedVariables false
set_option linter.unusedSimpArgs false
theorem S4n {a b c d : Addr} {x y z u : Value} {W w w' : World} (h : w.cell? a = some x ∧ w.cell? b = some y ∧ w.cell? c = some z ∧ w.cell? d = some u ∧ Below W.heap.size W w) (hb : Below w.heap.size w w') : w'.cell? a = some x ∧ w'.cell? b = some y ∧ w'.cell? c = some z ∧ w'.cell? d = some u ∧ Below W.heap.size W w' :=
  ⟨(hb.cell (cellInL h.1)).trans h.1, (hb.cell (cellInL h.2.1)).trans h.2.1, (hb.cell (cellInL h.2.2.1)).trans h.2.2.1, (hb.cell (cellInL h.2.2.2.1)).trans h.2.2.2.1, h.2.2.2.2.trans (hb.mono h.2.2.2.2.size)⟩
set_option maxRecDepth 100000 in
set_option maxHeartbeats 4000000 in
theorem sameLine_ref {P Q : Nat → Prop} (l m : List Gl) (v u : Value) (w : World) (h : RdG P w v l) (hm : RdG Q w u m) : Calls Tryz.prog 18 #[v, u] w (SaysL (.bool (decide (l = m))) w) := by
  obtain ⟨pa, cap, rfl, hc1, hc2⟩ := sliceG h
  obtain ⟨pb, cab, rfl, hd1, hd2⟩ := sliceG hm
  skip
  have hgd : Tryz.prog.eqGuardType Tryz.prog.depth 44 = false := by kernel_rfl
  by_cases hlen : l.length = m.length
  · have HH := Lib.hid h
    have HM := Lib.hid hm
    rw [← hlen] at HM ⊢
    obtain ⟨n, hn⟩ : ∃ n, l.length = n := ⟨_, rfl⟩
    have HN := Lib.hid hn
    have HNM := Lib.hid (hlen.symm.trans hn)
    rw [hn] at HH HM hc1 ⊢
    have n62 : n ≤ 9223372036854775807 := by omega
    have t0 : ((n : Int) != (n : Int)) = false := by simp
    obtain ⟨z, hz⟩ : ∃ z, decide (l = m) = z := ⟨_, rfl⟩
    have HZ := Lib.hid hz
    rw [hz]
    clear h hm hn hlen hd1 hz
    go_enter Tryz.func18, Tryz.ntmps18
    go_wp2_with fail
    go_loopw [13] (fun i wr => ∃ k : Nat, i = .int .i64 k ∧ k ≤ n ∧ Hid (l.take k = m.take k) ∧ Hid (Below w.heap.size w wr)) (fun i _ => n - (intOf i).toNat)
    case atStart => exact ⟨0, rfl, Nat.zero_le _, Lib.hid rfl, Lib.hid (Below.refl _ _)⟩
    case round =>
      obtain ⟨k, rfl, hk, HP, HB⟩ := hrel
      by_cases hlt : k < n
      · have hkl : k < l.length := by rw [HN.out]; exact hlt
        have hkm : k < m.length := by rw [HNM.out]; exact hlt
        have k1 : (k : Int) < n := by omega
        have HLT := Lib.hid hlt
        obtain ⟨b, off, rfl, _, d0, d1, d2, d3, d4⟩ := (HH.out.below HB.out).at_ hkl
        obtain ⟨b2, off2, rfl, _, e0, e1, e2, e3, e4⟩ := (HM.out.below HB.out).at_ hkm
        have HMO := Lib.hid (fun (e : l[k] = m[k]) => take_more hkl hkm HP.out e)
        have HNO := Lib.hid (fun (e : l[k] ≠ m[k]) => show decide (l = m) = false from decide_eq_false (take_ne hkl hkm e))
        obtain ⟨x, hx⟩ : ∃ x, l[k] = x := ⟨_, rfl⟩
        obtain ⟨y, hy⟩ : ∃ y, m[k] = y := ⟨_, rfl⟩
        rw [hx] at d0 d1 d2 d3 d4 HMO HNO
        rw [hy] at e0 e1 e2 e3 e4 HMO HNO
        by_cases hxy : x = y
        · have heq := fun w => eqGl x y w
          rw [decide_eq_true hxy] at heq
          have HT := Lib.hid (HMO.out hxy)
          clear hx hy hkl hkm hlt hxy
          go_upto_region 6 with fail
          go_quiet (fail)
          have HB2 := Lib.hid (dn_below HB.out nq)
          go_wp2_with fail
          go_roundw
          case measure => have := HLT.out; simp [intOf]; omega
          case rel => exact ⟨k + 1, by go_num, HLT.out, HT, HB2⟩
        · have heq := fun w => eqGl x y w
          rw [decide_eq_false hxy] at heq
          have HT := Lib.hid (HZ.out.symm.trans (HNO.out hxy))
          clear hx hy hkl hkm hlt hxy
          go_upto_region 6 with fail
          go_quiet (fail)
          have HB2 := Lib.hid (dn_below HB.out nq)
          go_wp2_with fail
          go_ret
          exact ⟨by rw [HT.out]; rfl, HB2.out⟩
      · obtain rfl : n = k := by omega
        have hzk : ¬ (n : Int) < n := by omega
        have HT := Lib.hid (show z = true by
          rw [← HZ.out]
          have h := HP.out
          rw [List.take_of_length_le (by rw [HN.out]; exact Nat.le_refl _), List.take_of_length_le (by rw [HNM.out]; exact Nat.le_refl _)] at h
          exact decide_eq_true h)
        clear hlt
        go_wp2_with fail
        go_ret
        exact ⟨by rw [HT.out]; rfl, HB.out⟩
  · have t0 : ((l.length : Int) != (m.length : Int)) = true := by simp; omega
    rw [decide_eq_false (fun e => hlen (by rw [e]))]
    obtain ⟨n, hn⟩ : ∃ n, l.length = n := ⟨_, rfl⟩
    obtain ⟨k, hk⟩ : ∃ k, m.length = k := ⟨_, rfl⟩
    rw [hn, hk] at t0 ⊢
    have n62 : n ≤ 9223372036854775807 := by omega
    have k62 : k ≤ 9223372036854775807 := by omega
    clear h hm hn hk hlen hc1 hd1
    go_enter Tryz.func18, Tryz.ntmps18
    go_wp2_with fail
    go_ret
    exact ⟨rfl, Below.refl _ _⟩
end Go.Proofs.YtjohhahfpgfjdaaGreatDoor.Tb
