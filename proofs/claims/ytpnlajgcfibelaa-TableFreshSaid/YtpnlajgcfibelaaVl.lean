/- Layer 12: the document's apart. -/
import Derived.Test.YtpnlajgcfibelaaVd
import Derived.Test.YtpnlajgcfibelaaVh
namespace Go.Proofs.Ytpnlajgcfibelaa.Tb
open Go.RowKit Go.Maps
set_option linter.unusedVariables false
set_option linter.unusedSimpArgs false
def apartF (cs : List (Int × Int)) : Bool := standF 0 cs && decide (1 ≤ cs.length ∧ cs.length ≤ 8)
theorem stand_no {d : Int} {c : Int × Int} {cs : List (Int × Int)} (hd : 0 ≤ d) (h : c.1 < d ∨ 200 < c.1 ∨ c.2 < 1 ∨ 200 < c.2 ∨ 200 < c.1 + c.2) : standF d (c :: cs) = false := by
  rw [standF_cons]
  unfold within
  by_cases h1 : 1 ≤ c.2 ∧ c.2 ≤ 200
  · have h2 : ¬ (d ≤ c.1 ∧ c.1 ≤ 200 - c.2) := by omega
    simp [h1, h2]
  · simp [h1]
theorem stand_yes {d : Int} {c : Int × Int} {cs : List (Int × Int)} (h : ¬ (c.1 < d ∨ 200 < c.1 ∨ c.2 < 1 ∨ 200 < c.2 ∨ 200 < c.1 + c.2)) : standF d (c :: cs) = standF (c.1 + c.2) cs := by
  rw [standF_cons]
  unfold within
  have h1 : 1 ≤ c.2 ∧ c.2 ≤ 200 := by omega
  have h2 : d ≤ c.1 ∧ c.1 ≤ 200 - c.2 := by omega
  simp [h1, h2]
set_option maxRecDepth 100000 in
set_option maxHeartbeats 4000000 in
theorem apart_ref {P : Nat → Prop} (cs : List (Int × Int)) (v : Value) (w : World) (h : RdC P w v cs) : Calls Try.prog 44 #[v] w (SaysL (.bool (apartF cs)) w) := by
  obtain ⟨pa, cap, rfl, h1, h2⟩ := sliceC h
  have HH := Lib.hid h
  obtain ⟨n, hn⟩ : ∃ n, cs.length = n := ⟨_, rfl⟩
  have HN := Lib.hid hn
  rw [hn] at HH h1 ⊢
  have hn62 : n ≤ 9223372036854775807 := by omega
  clear h hn h1
  go_enter Try.func44, Try.ntmps44
  go_wp2_with fail
  go_loopw [3, 4] (fun e i wr => ∃ (k : Nat) (d : Int), i = .int .i64 k ∧ k ≤ n ∧ e = .int .i64 d ∧ 0 ≤ d ∧ d ≤ 200 ∧ Hid (standF 0 cs = standF d (cs.drop k)) ∧ Hid (Below w.heap.size w wr)) (fun _ i _ => n - (intOf i).toNat)
  case atStart => exact ⟨0, 0, rfl, Nat.zero_le _, rfl, by omega, by omega, Lib.hid (by rw [List.drop_zero]), Lib.hid (Below.refl _ _)⟩
  case round =>
    obtain ⟨k, d, rfl, hk, rfl, hd0, hd2, HS, HB⟩ := hrel
    by_cases hlt : k < n
    · have hkl : k < cs.length := by rw [HN.out]; exact hlt
      obtain ⟨b, off, rfl, _, c0, c1⟩ := (HH.out.below HB.out).cell hkl
      have hd := List.drop_eq_getElem_cons hkl
      obtain ⟨c, hc⟩ : ∃ c, cs[k] = c := ⟨_, rfl⟩
      rw [hc] at c0 c1 hd
      have hS := HS.out
      rw [hd] at hS
      have HSE := Lib.hid hS
      have HB1 := Lib.hid (HB.out.trans ((below_box wr (.cells #[.int .i64 c.1, .int .i64 c.2] 59)).mono HB.out.size))
      have k1 : (k : Int) < n := by omega
      have HLT := Lib.hid hlt
      clear hc hlt hd hS
      by_cases ho : c.1 < d ∨ 200 < c.1 ∨ c.2 < 1 ∨ 200 < c.2 ∨ 200 < c.1 + c.2
      · have HNO := Lib.hid (show apartF cs = false by unfold apartF; rw [HSE.out, stand_no hd0 ho]; rfl)
        by_cases q1 : c.1 < d
        · clear ho
          go_wp2_with fail
          go_ret
          exact ⟨by rw [HNO.out]; rfl, HB1.out⟩
        by_cases q2 : 200 < c.1
        · clear ho
          go_wp2_with fail
          go_ret
          exact ⟨by rw [HNO.out]; rfl, HB1.out⟩
        by_cases q3 : c.2 < 1
        · clear ho
          go_wp2_with fail
          go_ret
          exact ⟨by rw [HNO.out]; rfl, HB1.out⟩
        by_cases q4 : 200 < c.2
        · clear ho
          go_wp2_with fail
          go_ret
          exact ⟨by rw [HNO.out]; rfl, HB1.out⟩
        have q5 : 200 < c.1 + c.2 := by omega
        clear ho
        go_wp2_with fail
        go_ret
        exact ⟨by rw [HNO.out]; rfl, HB1.out⟩
      · have hy := HSE.out
        rw [stand_yes ho] at hy
        have HY := Lib.hid hy
        have q1 : ¬ c.1 < d := fun h => ho (.inl h)
        have q2 : ¬ 200 < c.1 := fun h => ho (.inr (.inl h))
        have q3 : ¬ c.2 < 1 := fun h => ho (.inr (.inr (.inl h)))
        have q4 : ¬ 200 < c.2 := fun h => ho (.inr (.inr (.inr (.inl h))))
        have q5 : ¬ 200 < c.1 + c.2 := fun h => ho (.inr (.inr (.inr (.inr h))))
        have sw : IntKind.i64.wrap (c.1 + c.2) = c.1 + c.2 := IntWalk.i64_in _ (by omega)
        clear ho hy
        go_wp2_with fail
        go_roundw
        case measure => have := HLT.out; simp [intOf]; omega
        case rel => exact ⟨k + 1, c.1 + c.2, by go_num, HLT.out, rfl, by omega, by omega, HY, HB1⟩
    · obtain rfl : k = n := by omega
      have hzk : ¬ (k : Int) < k := by omega
      have hst : standF 0 cs = true := by rw [HS.out, List.drop_eq_nil_of_le (by rw [HN.out]; exact Nat.le_refl _)]; rfl
      by_cases z1 : (1 : Int) ≤ k
      · by_cases z2 : (k : Int) ≤ 8
        · have HF := Lib.hid (show apartF cs = true by unfold apartF; rw [hst, HN.out, decide_eq_true (by omega)]; rfl)
          clear hlt hst
          go_wp2_with fail
          go_ret
          exact ⟨by rw [HF.out]; rfl, HB.out⟩
        · have HF := Lib.hid (show apartF cs = false by unfold apartF; rw [hst, HN.out, decide_eq_false (by omega)]; rfl)
          clear hlt hst
          go_wp2_with fail
          go_ret
          exact ⟨by rw [HF.out]; rfl, HB.out⟩
      · have HF := Lib.hid (show apartF cs = false by unfold apartF; rw [hst, HN.out, decide_eq_false (by omega)]; rfl)
        clear hlt hst
        go_wp2_with fail
        go_ret
        exact ⟨by rw [HF.out]; rfl, HB.out⟩
end Go.Proofs.Ytpnlajgcfibelaa.Tb
