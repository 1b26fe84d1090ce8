/- Layer 13: the law's flat and braced. -/
import Derived.Test.YtjohhahfpgfjdaaGreatDoorK35
import Derived.Test.YtjohhahfpgfjdaaGreatDoorK36
import Derived.Test.YtjohhahfpgfjdaaGreatDoorK37
import Derived.Test.YtjohhahfpgfjdaaGreatDoorKQh
namespace Go.Proofs.YtjohhahfpgfjdaaGreatDoor.Tb
open Go.RowKit Go.Maps
set_option linter.unusedVariables false
set_option linter.unusedSimpArgs false
def flatB (l : List Opr) : Bool := l.all fun x => decide (x.k < 10)
theorem flat_no {l : List Opr} {k : Nat} (hk : k < l.length) (h : ¬ l[k].k < 10) : flatB l = false := by
  unfold flatB
  rw [List.all_eq_false]
  exact ⟨l[k], List.getElem_mem hk, by simpa using h⟩
theorem flat_yes {l : List Opr} (h : ∀ j (hj : j < l.length), l[j].k < 10) : flatB l = true := by
  unfold flatB
  rw [List.all_eq_true]
  intro x hx
  obtain ⟨j, hj, rfl⟩ := List.mem_iff_getElem.1 hx
  simpa using h j hj
set_option maxRecDepth 100000 in
set_option maxHeartbeats 4000000 in
theorem flat_law {P : Nat → Prop} (l : List Opr) (v : Value) (w : World) (h : Ir.RdO P w v l) : Calls Tryz.prog 14 #[v] w (SaysL (.bool (flatB l)) w) := by
  obtain ⟨pa, cap, rfl, hc1, hc2⟩ := h.form
  unfold maxLen at hc2
  have HH := Lib.hid h
  obtain ⟨n, hn⟩ : ∃ n, l.length = n := ⟨_, rfl⟩
  have HN := Lib.hid hn
  obtain ⟨fb, hfb⟩ : ∃ fb, flatB l = fb := ⟨_, rfl⟩
  have HFB := Lib.hid hfb
  rw [hn] at HH hc1 ⊢
  rw [hfb]
  have hn62 : n ≤ 9223372036854775807 := by omega
  clear h hn hc1 hfb
  go_enter Tryz.func14, Tryz.ntmps14
  go_wp2_with fail
  go_loopw [7] (fun i wr => ∃ (k : Nat), i = .int .i64 k ∧ k ≤ n ∧ Hid (∀ j (hj : j < l.length), j < k → l[j].k < 10) ∧ Hid (Below w.heap.size w wr)) (fun i _ => n - (intOf i).toNat)
  case atStart => exact ⟨0, rfl, Nat.zero_le _, Lib.hid (fun j hj h => absurd h (Nat.not_lt_zero _)), Lib.hid (Below.refl _ _)⟩
  case round =>
    obtain ⟨k, rfl, hk, HA, HB⟩ := hrel
    by_cases hlt : k < n
    · have hkl : k < l.length := by rw [HN.out]; exact hlt
      obtain ⟨b, off, rfl, c0, c1, c2, wv, c3, h4⟩ := (HH.out.below HB.out).at_ hkl
      obtain ⟨p4, q4, rfl, u1, u2⟩ := h4.form
      have HX := Lib.hid (show ∀ j (hj : j < l.length), j < k + 1 → l[j].k < 10 ∨ j = k from fun j hj h => by
        by_cases e : j = k
        · exact .inr e
        · exact .inl (HA.out j hj (by omega)))
      have HNO := Lib.hid (flat_no hkl)
      obtain ⟨x, hx⟩ : ∃ x, (l[k]'hkl) = x := ⟨_, rfl⟩
      rw [hx] at c0 c1 c2 c3 h4 HNO
      have HXE := Lib.hid (show ∀ (hj : k < l.length), (l[k]'hj) = x from fun _ => hx)
      obtain ⟨wn, hwn⟩ : ∃ wn, x.w.length = wn := ⟨_, rfl⟩
      rw [hwn] at c3
      have hA := below_box wr (.cells #[.int .i64 x.k, .int .i64 x.n, .string x.t, .slice p4 wn q4] 53)
      have HB2 := Lib.hid (HB.out.trans (hA.mono HB.out.size))
      have k1 : (k : Int) < n := by omega
      have HLT := Lib.hid hlt
      by_cases h10 : (10 : Int) ≤ x.k
      · have HFF := Lib.hid (show fb = false from HFB.out.symm.trans (HNO.out (by omega)))
        clear hx hA h4 u1 u2 hlt hkl hwn
        go_wp2_with fail
        go_ret
        exact ⟨by rw [HFF.out]; rfl, HB2.out⟩
      · have HALL := Lib.hid (show ∀ j (hj : j < l.length), j < k + 1 → l[j].k < 10 from fun j hj h => by
          rcases HX.out j hj h with e | rfl
          · exact e
          · rw [HXE.out]; omega)
        clear hx hA h4 u1 u2 hlt hkl hwn
        go_wp2_with fail
        go_roundw
        case measure => have := HLT.out; simp [intOf]; omega
        case rel => exact ⟨k + 1, by go_num, HLT.out, HALL, HB2⟩
    · obtain rfl : k = n := by omega
      have hz1 : ¬ (k : Int) < k := by omega
      have HFT := Lib.hid (show fb = true from HFB.out.symm.trans (flat_yes fun j hj => HA.out j hj (by rw [← HN.out]; exact hj)))
      clear hlt
      go_wp2_with fail
      go_ret
      exact ⟨by rw [HFT.out]; rfl, HB.out⟩
/-- How many braces are open. -/
def deepN (l : List Opr) (k : Nat) : Nat := (alRun al0 (l.take k)).deep.length
theorem deepN_succ {l : List Opr} {k : Nat} (h : k < l.length) : deepN l (k + 1) = if l[k].k = 2 ∨ l[k].k = 3 ∨ l[k].k = 4 then deepN l k + 1 else if l[k].k = 5 then deepN l k - 1 else deepN l k := by
  unfold deepN
  rw [List.take_succ_eq_append_getElem h]
  unfold alRun
  rw [List.foldl_append, List.foldl_cons, List.foldl_nil]
  obtain ⟨a, ha⟩ : ∃ a, (l.take k).foldl alS al0 = a := ⟨_, rfl⟩
  rw [ha]
  obtain ⟨x, hx⟩ : ∃ x, l[k] = x := ⟨_, rfl⟩
  rw [hx]
  unfold alS
  by_cases h1 : x.k = 1
  · simp [h1]
  by_cases h2 : x.k = 2
  · simp [h2]
  by_cases h3 : x.k = 3
  · simp [h3]
  by_cases h4 : x.k = 4
  · simp [h4]
  by_cases h5 : x.k = 5
  · simp [h5]
  simp [h1, h2, h3, h4, h5]
theorem deepN_le (l : List Opr) (k : Nat) (h : k ≤ l.length) : deepN l k ≤ k := by
  have := (al_len (l.take k) al0).2.2
  unfold deepN
  have e : al0.deep.length = 0 := rfl
  have e2 : (l.take k).length ≤ k := by rw [List.length_take]; omega
  omega
set_option maxRecDepth 100000 in
set_option maxHeartbeats 4000000 in
theorem braced_law {P : Nat → Prop} (l : List Opr) (v : Value) (w : World) (h : Ir.RdO P w v l) (hp : ∀ (j : Nat) (hj : j < l.length), l[j].k = 5 → 0 < deepN l j) : Calls Tryz.prog 15 #[v] w (SaysL (.bool true) w) := by
  obtain ⟨pa, cap, rfl, hc1, hc2⟩ := h.form
  unfold maxLen at hc2
  have HH := Lib.hid h
  have HP := Lib.hid hp
  obtain ⟨n, hn⟩ : ∃ n, l.length = n := ⟨_, rfl⟩
  have HN := Lib.hid hn
  rw [hn] at HH hc1 ⊢
  have hn62 : n ≤ 9223372036854775807 := by omega
  clear h hp hn hc1
  go_enter Tryz.func15, Tryz.ntmps15
  go_wp2_with fail
  go_loopw [3, 8] (fun d i wr => ∃ (k q : Nat), i = .int .i64 k ∧ k ≤ n ∧ d = .int .i64 q ∧ Hid (deepN l k = q) ∧ Hid (Below w.heap.size w wr)) (fun _ i _ => n - (intOf i).toNat)
  case atStart => exact ⟨0, 0, rfl, Nat.zero_le _, rfl, Lib.hid rfl, Lib.hid (Below.refl _ _)⟩
  case round =>
    obtain ⟨k, q, rfl, hk, rfl, HQ, HB⟩ := hrel
    by_cases hlt : k < n
    · have hkl : k < l.length := by rw [HN.out]; exact hlt
      obtain ⟨b, off, rfl, c0, c1, c2, wv, c3, h4⟩ := (HH.out.below HB.out).at_ hkl
      obtain ⟨p4, q4, rfl, u1, u2⟩ := h4.form
      have hds := deepN_succ hkl
      have hpo := HP.out k hkl
      have hle := deepN_le l k (by omega)
      rw [HQ.out] at hds hpo hle
      obtain ⟨x, hx⟩ : ∃ x, (l[k]'hkl) = x := ⟨_, rfl⟩
      rw [hx] at c0 c1 c2 c3 h4 hds hpo
      obtain ⟨wn, hwn⟩ : ∃ wn, x.w.length = wn := ⟨_, rfl⟩
      rw [hwn] at c3
      have hA := below_box wr (.cells #[.int .i64 x.k, .int .i64 x.n, .string x.t, .slice p4 wn q4] 53)
      have HB2 := Lib.hid (HB.out.trans (hA.mono HB.out.size))
      have k1 : (k : Int) < n := by omega
      have HLT := Lib.hid hlt
      obtain ⟨xk, xn, xt, xw⟩ := x
      dsimp only at c0 c1 c2 c3 hds hpo HB2
      have q62 : q + 1 ≤ 9223372036854775807 := by omega
      clear hx hA h4 u1 u2 hlt hkl hwn hle
      by_cases g2 : xk = 2
      · subst g2
        rw [if_pos (by decide)] at hds
        have HD := Lib.hid hds
        have z1 : ¬ ((q : Int) + 1 < 0) := by omega
        clear hds hpo
        go_wp2_with fail
        go_roundw
        case measure => have := HLT.out; simp [intOf]; omega
        case rel => exact ⟨k + 1, q + 1, by go_num, HLT.out, by go_num, HD, HB2⟩
      by_cases g3 : xk = 3
      · subst g3
        rw [if_pos (by decide)] at hds
        have HD := Lib.hid hds
        have z1 : ¬ ((q : Int) + 1 < 0) := by omega
        clear hds hpo
        go_wp2_with fail
        go_roundw
        case measure => have := HLT.out; simp [intOf]; omega
        case rel => exact ⟨k + 1, q + 1, by go_num, HLT.out, by go_num, HD, HB2⟩
      by_cases g4 : xk = 4
      · subst g4
        rw [if_pos (by decide)] at hds
        have HD := Lib.hid hds
        have z1 : ¬ ((q : Int) + 1 < 0) := by omega
        clear hds hpo
        go_wp2_with fail
        go_roundw
        case measure => have := HLT.out; simp [intOf]; omega
        case rel => exact ⟨k + 1, q + 1, by go_num, HLT.out, by go_num, HD, HB2⟩
      by_cases g5 : xk = 5
      · subst g5
        rw [if_neg (by decide), if_pos rfl] at hds
        have hq := hpo rfl
        obtain ⟨p, rfl⟩ : ∃ p, q = p + 1 := ⟨q - 1, by omega⟩
        have HD := Lib.hid hds
        have z1 : ¬ ((p : Int) < 0) := by omega
        have e1 : ((p + 1 : Nat) : Int) - 1 = p := by omega
        clear hds hpo hq
        go_wp2_with fail
        go_roundw
        case measure => have := HLT.out; simp [intOf]; omega
        case rel => exact ⟨k + 1, p, by go_num, HLT.out, by go_num, HD, HB2⟩
      rw [if_neg (by omega), if_neg g5] at hds
      have HD := Lib.hid hds
      have z1 : ¬ ((q : Int) < 0) := by omega
      have y2 : (xk == 2) = false := by simpa using g2
      have y3 : (xk == 3) = false := by simpa using g3
      have y4 : (xk == 4) = false := by simpa using g4
      have y5 : (xk == 5) = false := by simpa using g5
      clear hds hpo
      go_wp2_with fail
      go_roundw
      case measure => have := HLT.out; simp [intOf]; omega
      case rel => exact ⟨k + 1, q, by go_num, HLT.out, rfl, HD, HB2⟩
    · obtain rfl : k = n := by omega
      have hz1 : ¬ (k : Int) < k := by omega
      clear hlt
      go_wp2_with fail
      go_ret
      exact ⟨rfl, HB.out⟩
end Go.Proofs.YtjohhahfpgfjdaaGreatDoor.Tb
