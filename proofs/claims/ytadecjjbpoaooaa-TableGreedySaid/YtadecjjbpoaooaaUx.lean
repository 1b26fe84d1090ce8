/- Layer 12: the library's Concat and Repeat at glyphs. -/
import Derived.Test.YtadecjjbpoaooaaUw
import Derived.Test.YtadecjjbpoaooaaShelf
namespace Go.Proofs.Ytadecjjbpoaooaa.Tb
open Go.RowKit Go.Maps
set_option linter.unusedVariables false
set_option linter.unusedSimpArgs false
def flat (ls : List (List Gl)) : List Gl := ls.flatten
theorem flat_take (ls : List (List Gl)) (k : Nat) (h : k < ls.length) : flat (ls.take (k + 1)) = flat (ls.take k) ++ ls[k] := by
  unfold flat
  rw [List.take_succ_eq_append_getElem h, List.flatten_append, List.flatten_cons, List.flatten_nil, List.append_nil]
theorem flat_take_le (ls : List (List Gl)) (k : Nat) : (flat (ls.take k)).length ≤ (flat ls).length := by
  have := congrArg List.length (congrArg List.flatten (List.take_append_drop k ls))
  rw [List.flatten_append, List.length_append] at this
  unfold flat
  omega
theorem wrap_add {t m : Nat} (h : t + m ≤ 2932031007402) : wrap64 ((t : Int) + m) = ((t + m : Nat) : Int) ∧ ¬ ((t : Int) + m < 0) ∧ ¬ (((t + m : Nat) : Int) < 0) := by
  refine ⟨?_, by omega, by omega⟩
  rw [IntWalk.wrap64_in _ (by omega)]
  omega
set_option maxRecDepth 100000 in
set_option maxHeartbeats 4000000 in
theorem concat_pro {P : Nat → Prop} (ls : List (List Gl)) (v : Value) (w : World) (h : RdL P w v ls) (hl : (flat ls).length * 48 ≤ 140737488355328) :
    Calls Try.prog 47 #[v] w (MakesR (flat ls) w) := by
  obtain ⟨i0, hi0, hz0, hz1, hz2⟩ := info_parts infoG
  obtain ⟨pa, cap, rfl, hc1, hc2⟩ := h.form
  unfold maxLen at hc2
  have HH := Lib.hid h
  have HL := Lib.hid hl
  obtain ⟨n, hn⟩ : ∃ n, ls.length = n := ⟨_, rfl⟩
  have HN := Lib.hid hn
  rw [hn] at HH hc1 ⊢
  have hn62 : n ≤ 9223372036854775807 := by omega
  have HG := Lib.hid (grow_pro (flat ls).length w hl)
  obtain ⟨T, hT⟩ : ∃ T, (flat ls).length = T := ⟨_, rfl⟩
  have HT := Lib.hid hT
  rw [hT] at HG hl
  have hT2 : T ≤ 2932031007402 := by omega
  clear h hn hc1 hT hl
  go_enter Try.func47, Try.ntmps47
  go_wp2_with fail
  go_loop [3, 11] (fun s i => ∃ k : Nat, i = .int .i64 k ∧ k ≤ n ∧ s = .int .i64 ((flat (ls.take k)).length : Nat)) (fun _ i => n - (intOf i).toNat)
  case atStart => exact ⟨0, rfl, Nat.zero_le _, rfl⟩
  case round =>
    obtain ⟨k, rfl, hk, rfl⟩ := hrel
    by_cases hlt : k < n
    · have hkl : k < ls.length := by rw [HN.out]; exact hlt
      obtain ⟨b, off, p1, q1, rfl, _, c0, _, _, _⟩ := HH.out.at_ hkl
      have hft := flat_take ls k hkl
      have hle := flat_take_le ls (k + 1)
      rw [HT.out] at hle
      have HFT := Lib.hid (congrArg List.length hft)
      rw [hft, List.length_append] at hle
      obtain ⟨m, hm⟩ : ∃ m, (ls[k]'hkl).length = m := ⟨_, rfl⟩
      obtain ⟨t, ht⟩ : ∃ t, (flat (ls.take k)).length = t := ⟨_, rfl⟩
      rw [List.length_append, ht, hm] at HFT
      rw [hm] at c0
      rw [ht, hm] at hle
      rw [ht]
      have hw := wrap_add (Nat.le_trans hle hT2)
      have t1 := hw.2.1
      have k1 : (k : Int) < n := by omega
      have HLT := Lib.hid hlt
      clear hm ht hlt hft hw
      go_wp2_with fail
      go_round
      case measure => have := HLT.out; simp [intOf]; omega
      case rel => exact ⟨k + 1, by go_num, HLT.out, by rw [HFT.out]; go_num⟩
    · obtain rfl : k = n := by omega
      have hzk : ¬ (k : Int) < k := by omega
      have hts : (flat (ls.take k)).length = T := by rw [show ls.take k = ls by rw [← HN.out, List.take_length]]; exact HT.out
      rw [hts]
      clear hlt hts
      go_wp2_with fail
      refine HG.out.mono ?_
      rintro e w1 ⟨v1, rfl, ho1, hb1⟩
      have HO1 := Lib.hid (show w1.ownsRow w.heap.size 40 5 v1 (flat (ls.take 0)).length (rowsG (flat (ls.take 0))) from ho1)
      have HB1 := Lib.hid hb1
      clear ho1 hb1
      go_wp2_with fail
      go_loopw [6, 27] (fun s i wr => ∃ j : Nat, i = .int .i64 j ∧ j ≤ k ∧ Hid (wr.ownsRow w.heap.size 40 5 s (flat (ls.take j)).length (rowsG (flat (ls.take j)))) ∧ Hid (Below w.heap.size w wr)) (fun _ i _ => k - (intOf i).toNat)
      case atStart => exact ⟨0, rfl, Nat.zero_le _, HO1, HB1⟩
      case round =>
        obtain ⟨j, rfl, hj, HO, HB⟩ := hrel
        by_cases hlt : j < k
        · have hjl : j < ls.length := by rw [HN.out]; exact hlt
          obtain ⟨b, off, p1, q1, rfl, _, c0, _, _, hx⟩ := (HH.out.below HB.out).at_ hjl
          obtain ⟨p3, c3, rfl⟩ := lenL HO.out
          have hft := flat_take ls j hjl
          have hle := flat_take_le ls (j + 1)
          rw [HT.out, hft, List.length_append] at hle
          have HFT := Lib.hid hft
          obtain ⟨x, hxx⟩ : ∃ x, ls[j]'hjl = x := ⟨_, rfl⟩
          rw [hxx] at c0 hx hle HFT
          have HLI := Lib.hid hx.lies
          have HSZ := Lib.hid HB.out.size
          have M1 := Lib.hid (show (flat (ls.take j)).length + x.length ≤ maxLen by unfold maxLen; omega)
          have M2 := Lib.hid (show ((flat (ls.take j)).length + x.length) * 48 ≤ 140737488355328 by have := HL.out; have := HT.out; omega)
          have j1 : (j : Int) < k := by omega
          have HLT := Lib.hid hlt
          obtain ⟨t, ht⟩ : ∃ t, (flat (ls.take j)).length = t := ⟨_, rfl⟩
          have HTT := Lib.hid ht
          obtain ⟨m, hm⟩ : ∃ m, x.length = m := ⟨_, rfl⟩
          have HMM := Lib.hid hm
          rw [ht] at HO M1 M2
          rw [hm] at HLI M1 M2 c0
          rw [ht]
          clear hft hle hxx hx hlt ht hm
          go_wp2_with (at_builtin; go_loud (refine wpList_append_lies' rfl _ _ 32 rfl w.heap.size 40 i0 _ 5 48 Try.underlying32 hi0 hz0 hz1 hz2 rfl (by decide) _ _ _ rfl HO.out _ _ _ rfl HLI.out M1.out M2.out HSZ.out ?_); intro v5 w5 hown5 hg5; have HO5 := Lib.hid (show w5.ownsRow w.heap.size 40 5 v5 (flat (ls.take (j + 1))).length (rowsG (flat (ls.take (j + 1)))) from by rw [HFT.out, List.length_append, HTT.out, HMM.out, rowsG_app]; exact hown5); have HB5 := Lib.hid (HB.out.grown hg5 HSZ.out (fun k hk => (own_base HO.out hk).1)); clear hown5 hg5)
          go_wp2_with fail
          go_roundw
          case measure => have := HLT.out; simp [intOf]; omega
          case rel => exact ⟨j + 1, by go_num, HLT.out, HO5, HB5⟩
        · obtain rfl : j = k := by omega
          have hzj : ¬ (j : Int) < j := by omega
          clear hlt
          go_wp2_with fail
          go_ret
          exact ⟨_, rfl, by have h := HO.out; rw [show ls.take j = ls by rw [← HN.out, List.take_length]] at h; exact h, HB.out⟩
end Go.Proofs.Ytadecjjbpoaooaa.Tb
