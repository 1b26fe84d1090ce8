/- Layer 11: the program's countTexts, anyBelow. -/
import Derived.Test.YtdagombmgcnofaaGreatDoorIz
namespace Go.Proofs.YtdagombmgcnofaaGreatDoor.Ir
open Go.RowKit Go.Maps Go.Proofs.YtdagombmgcnofaaGreatDoor
set_option linter.unusedVariables false
set_option linter.unusedSimpArgs false
set_option maxRecDepth 100000 in
set_option maxHeartbeats 2000000 in
theorem count_pro {P : Nat → Prop} (l : List Opr) (v : Value) (w : World) (h : RdO P w v l) : Calls Tryz.prog 72 #[v] w (SaysL (.int .i64 ((longsL l).length : Nat)) w) := by
  obtain ⟨pa, cap, rfl, hc1, hc2⟩ := sliceN h
  have HH := Lib.hid h
  obtain ⟨n, hn⟩ : ∃ n, l.length = n := ⟨_, rfl⟩
  have HN := Lib.hid hn
  rw [hn] at HH hc1 ⊢
  have hn62 : n ≤ 9223372036854775807 := by omega
  clear h hn hc1
  go_enter Tryz.func72, Tryz.ntmps72
  go_wp2_with fail
  go_loopw [3, 8] (fun s i wr => ∃ k : Nat, i = .int .i64 k ∧ k ≤ n ∧ Hid (s = .int .i64 ((longsL (l.take k)).length : Nat)) ∧ Hid (Below w.heap.size w wr)) (fun _ i _ => n - (intOf i).toNat)
  case atStart => exact ⟨0, rfl, Nat.zero_le _, Lib.hid rfl, Lib.hid (Below.refl _ w)⟩
  case round =>
    obtain ⟨k, rfl, hk, HS, HB⟩ := hrel
    have hs := HS.out
    subst hs
    clear HS
    have hll : (longsL (l.take k)).length ≤ k := by have := longsL_len (l.take k); simp at this; omega
    by_cases hlt : k < n
    · have hkl : k < l.length := by rw [HN.out]; exact hlt
      obtain ⟨b, off, rfl, c0, c1, c2, wv, c3, h4⟩ := (HH.out.below HB.out).at_ hkl
      have ht := congrArg List.length (longsL_take hkl)
      rw [List.length_append] at ht
      obtain ⟨p4, q4, rfl, _, _⟩ := h4.form
      obtain ⟨x, hx⟩ : ∃ x, l[k]'hkl = x := ⟨_, rfl⟩
      rw [hx] at c0 c1 c2 c3 ht
      obtain ⟨z4, hz4⟩ : ∃ z4, x.w.length = z4 := ⟨_, rfl⟩
      rw [hz4] at c3
      obtain ⟨m, hm⟩ : ∃ m, (longsL (l.take k)).length = m := ⟨_, rfl⟩
      rw [hm] at hll ht ⊢
      have HB2 := Lib.hid (HB.out.alloc HB.out.size (.cells #[.int .i64 x.k, .int .i64 x.n, .string x.t, .slice p4 z4 q4] 81))
      have k1 : (k : Int) < n := by omega
      have HLT := Lib.hid hlt
      have HT := Lib.hid ht
      clear ht hx hz4 h4 hlt hm
      by_cases hk1 : x.k = 1
      · have t1 : (x.k == 1) = true := by simpa using hk1
        have HK := Lib.hid hk1
        clear hk1
        go_wp2_with fail
        go_roundw
        case measure => have := HLT.out; simp [intOf]; omega
        case rel => exact ⟨k + 1, by go_num, HLT.out, Lib.hid (by rw [HT.out, if_pos HK.out]; rfl), HB2⟩
      · have t1 : (x.k == 1) = false := by simpa using hk1
        have HK := Lib.hid hk1
        clear hk1
        go_wp2_with fail
        go_roundw
        case measure => have := HLT.out; simp [intOf]; omega
        case rel => exact ⟨k + 1, by go_num, HLT.out, Lib.hid (by rw [HT.out, if_neg HK.out]; rfl), HB2⟩
    · obtain rfl : k = n := by omega
      have hz1 : ¬ (k : Int) < k := by omega
      have hl2 : l.take k = l := by rw [← HN.out, List.take_length]
      rw [hl2]
      clear hlt
      go_wp2_with fail
      go_ret
      exact ⟨rfl, HB.out⟩
set_option maxRecDepth 100000 in
theorem below1_pro (z : Int) (a : Addr) (W : World) (h : W.cell? a = some (.int .i64 1)) : Calls Tryz.prog 127 #[.int .i64 z, .pointer (some a)] W (SaysL (.bool (decide (z < 1))) W) := by
  go_enter Tryz.func127, Tryz.ntmps127
  go_wp2_with fail
  go_ret
  exact ⟨rfl, Below.refl _ _⟩
set_option maxRecDepth 100000 in
theorem anyBelow_pro {P : Nat → Prop} (l : List Int) (v : Value) (w : World) (h : RdZ P w v l) (h1 : ∀ z ∈ l, 1 ≤ z) : Calls Tryz.prog 73 #[.int .i64 1, v] w (SaysL (.bool false) w) := by
  have hA : Below w.heap.size w (w.alloc (.cells #[.int .i64 1] 3)) := (Below.refl _ _).alloc (Nat.le_refl _) _
  have HA := Lib.hid hA
  have hc : (w.alloc (.cells #[.int .i64 1] 3)).cell? ⟨w.heap.size, 0, none⟩ = some (.int .i64 1) := by
    rw [cell_of_row _ _ _ _ _ _ (heap_alloc_new w _)]; rfl
  have HC := Lib.hid (any_below (fun z => decide (z < 1)) ⟨w.heap.size, 0, none⟩ l v _ (h.below hA) fun z W hb => below1_pro z _ W ((hb.cell (p := ⟨w.heap.size, 0, none⟩) (by simp)).trans hc))
  have ha : l.any (fun z => decide (z < 1)) = false := by
    rw [List.any_eq_false]
    intro z hz
    have := h1 z hz
    simp
    omega
  rw [ha] at HC
  obtain ⟨pa, cap, rfl, _, _⟩ := h.form
  clear h h1 hA hc ha
  go_enter Tryz.func73, Tryz.ntmps73
  go_wp2_with fail
  refine HC.out.mono ?_
  rintro e w1 ⟨rfl, hb⟩
  have HB := Lib.hid (HA.out.trans (hb.mono HA.out.size))
  clear hb
  go_wp2_with fail
  go_ret
  exact ⟨rfl, HB.out⟩
end Go.Proofs.YtdagombmgcnofaaGreatDoor.Ir
