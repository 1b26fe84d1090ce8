/- Layer 12: the document's Sign, Wide, tab. -/
import Derived.Test.YtadecjjbpoaooaaUg
import Derived.Test.YtadecjjbpoaooaaUl
namespace Go.Proofs.Ytadecjjbpoaooaa.Tb
open Go.RowKit Go.Maps
set_option linter.unusedVariables false
set_option linter.unusedSimpArgs false
set_option maxRecDepth 100000 in
theorem sign_ref (g : Gl) (w : World) : Calls Try.prog 13 #[glV g] w (SaysL (.bool (sgn g)) w) := by
  have hb := below_box w (boxG g)
  unfold boxG at hb
  unfold glV
  have HB := Lib.hid hb
  clear hb
  cases h1 : isB g with
  | true =>
    rw [show sgn g = false by simp [sgn, noS, h1]]
    unfold isB at h1
    have h1' : (g.t.toList != [32]) = false := by simpa using h1
    go_enter Try.func13, Try.ntmps13
    go_wp2_with fail
    go_ret
    exact ⟨rfl, HB.out⟩
  | false =>
    cases h2 : isT g with
    | true =>
      rw [show sgn g = false by simp [sgn, noS, h1, h2]]
      unfold isB at h1
      unfold isT at h2
      have h1' : (g.t.toList != [32]) = true := by simpa using h1
      have h2' : (g.t.toList != [9]) = false := by simpa using h2
      go_enter Try.func13, Try.ntmps13
      go_wp2_with fail
      go_ret
      exact ⟨rfl, HB.out⟩
    | false =>
      rw [show sgn g = !isN g by simp [sgn, noS, h1, h2]]
      unfold isB at h1
      unfold isT at h2
      have h1' : (g.t.toList != [32]) = true := by simpa using h1
      have h2' : (g.t.toList != [9]) = true := by simpa using h2
      obtain ⟨z, hz⟩ : ∃ z, isN g = z := ⟨_, rfl⟩
      rw [hz]
      unfold isN at hz
      cases z with
      | true =>
        have h3' : (g.t.toList != [10]) = false := by simpa using hz
        go_enter Try.func13, Try.ntmps13
        go_wp2_with fail
        go_ret
        exact ⟨rfl, HB.out⟩
      | false =>
        have h3' : (g.t.toList != [10]) = true := by simpa using hz
        go_enter Try.func13, Try.ntmps13
        go_wp2_with fail
        go_ret
        exact ⟨rfl, HB.out⟩
set_option maxRecDepth 100000 in
set_option maxHeartbeats 1000000 in
theorem wide_ref {P : Nat → Prop} (l : List Gl) (v : Value) (w : World) (h : RdG P w v l) (hl : l.length ≤ 140737488355328) (hs : SmallW l) : Calls Try.prog 14 #[v] w fun e w' => e = .returned (.int .i64 (wid l)) ∧ w = w' := by
  obtain ⟨pa, cap, rfl, h1, h2⟩ := sliceG h
  have HH := Lib.hid h
  obtain ⟨n, hn⟩ : ∃ n, l.length = n := ⟨_, rfl⟩
  have HN := Lib.hid hn
  have HS := Lib.hid hs
  rw [hn] at HH h1 ⊢
  have hn62 : n ≤ 140737488355328 := by omega
  clear h hn h1 hs hl
  go_enter Try.func14, Try.ntmps14
  go_wp2_with fail
  go_loop [3, 4] (fun s i => ∃ k : Nat, i = .int .i64 k ∧ k ≤ n ∧ s = .int .i64 (wid (l.take k))) (fun _ i => n - (intOf i).toNat)
  case atStart => exact ⟨0, rfl, Nat.zero_le _, rfl⟩
  case round =>
    obtain ⟨k, rfl, hk, rfl⟩ := hrel
    by_cases hlt : k < n
    · have hkl : k < l.length := by rw [HN.out]; exact hlt
      obtain ⟨b, off, rfl, _, hc⟩ := HH.out.at_ hkl
      have hT := Lib.hid (wid_take l k hkl)
      have hsm := wid_small (l := l.take k) fun g hg => HS.out g (List.mem_of_mem_take hg)
      have hkk : (l.take k).length ≤ k := List.length_take_le _ _
      have hx1 := HS.out _ (List.getElem_mem hkl)
      obtain ⟨x, hx⟩ : ∃ x, l[k] = x := ⟨_, rfl⟩
      rw [hx] at hc hT hx1
      obtain ⟨c0, c1, c2, c3, c4⟩ := hc
      obtain ⟨s, hs⟩ : ∃ s, wid (l.take k) = s := ⟨_, rfl⟩
      rw [hs] at hT hsm ⊢
      have s1 : 0 ≤ s := hsm.1
      have s2 : s ≤ 200 * 140737488355328 := by omega
      have x1 := hx1.1
      have x2 := hx1.2
      have k1 : (k : Int) < n := by omega
      have HLT := Lib.hid hlt
      clear hx hs hlt hsm hx1 hkk
      go_wp2_with fail
      go_round
      case measure => have := HLT.out; simp [intOf]; omega
      case rel => exact ⟨k + 1, by go_num, HLT.out, by rw [hT.out]⟩
    · obtain rfl : k = n := by omega
      have hz1 : ¬ (k : Int) < k := by omega
      clear hlt
      go_wp2_with fail
      go_ret
      exact ⟨by rw [show l.take k = l by rw [← HN.out, List.take_length]]; rfl, rfl⟩
end Go.Proofs.Ytadecjjbpoaooaa.Tb
