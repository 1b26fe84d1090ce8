/- Layer 11: the document's fields: whether an operation by itself may be. -/
import Derived.Test.YtjohhahfpgfjdaaGreatDoorK20
namespace Go.Proofs.YtjohhahfpgfjdaaGreatDoor.Ir
open Go.RowKit Go.Maps Go.Proofs.YtjohhahfpgfjdaaGreatDoor
set_option linter.unusedVariables false
set_option linter.unusedSimpArgs false
def fldB (x : Opr) (st tp : Int) : Bool := fitB x st tp && decide (1 ≤ x.k ∧ x.k ≤ 14)
theorem nilT {t : ByteArray} (h : t.size = 0) : t = ⟨#[]⟩ := by
  apply ByteArray.ext
  exact Array.eq_empty_of_size_eq_zero h
/-- Of the fields' call. -/
def FldC (k n : Int) (t : ByteArray) (wv : Value) (st tp : Int) (w : World) (b : Bool) : Prop :=
  Calls Tryz.prog 32 #[.agg #[.int .i64 k, .int .i64 n, .string t, wv], .int .i64 st, .int .i64 tp] w (SaysL (.bool b) w)
set_option maxRecDepth 100000
/-- A text where none may be. -/
theorem fld_text (k n : Int) (t : ByteArray) (wv : Value) (st tp : Int) (w : World) (hw : ∃ p l c, wv = .slice p l c) (hk : k ≠ 1) (ht : 1 ≤ t.size) : FldC k n t wv st tp w false := by
  obtain ⟨p, l, c, rfl⟩ := hw
  have t1 : (k != 1) = true := by simpa using hk
  have t2 : t.toList.isEmpty = false := notEmpty ht
  clear hk ht
  unfold FldC
  go_enter Tryz.func32, Tryz.ntmps32
  go_wp2_with fail
  go_ret
  exact ⟨rfl, (Below.refl _ _).alloc (Nat.le_refl _) _⟩
theorem fld_wide1 (n : Int) (t : ByteArray) (p : Option Addr) (l c : Nat) (st tp : Int) (w : World) (hl : 1 ≤ l) : FldC 1 n t (.slice p l c) st tp w false := by
  have h1 : (0 : Int) < l := by omega
  unfold FldC
  go_enter Tryz.func32, Tryz.ntmps32
  go_wp2_with fail
  go_ret
  exact ⟨rfl, (Below.refl _ _).alloc (Nat.le_refl _) _⟩
theorem fld_wide (k n : Int) (p : Option Addr) (l c : Nat) (st tp : Int) (w : World) (hk : k ≠ 1) (hk2 : k ≠ 12) (hl : 1 ≤ l) : FldC k n ⟨#[]⟩ (.slice p l c) st tp w false := by
  have h1 : (0 : Int) < l := by omega
  have t1 : (k != 1) = true := by simpa using hk
  have t3 : (k != 12) = true := by simpa using hk2
  clear hk hk2
  unfold FldC
  go_enter Tryz.func32, Tryz.ntmps32
  go_wp2_with fail
  go_ret
  exact ⟨rfl, (Below.refl _ _).alloc (Nat.le_refl _) _⟩
theorem fld_1 (n : Int) (t : ByteArray) (p : Option Addr) (c : Nat) (st tp : Int) (w : World) (hs : t.size ≤ 16777216) : FldC 1 n t (.slice p 0 c) st tp w (plainB t && !decide (t.size = 0) && decide (n = 0)) := by
  have HA := Lib.hid ((Below.refl w.heap.size w).alloc (Nat.le_refl _) (.cells #[.int .i64 1, .int .i64 n, .string t, .slice p 0 c] 53))
  have HP := Lib.hid (plain_ref t (w.alloc (.cells #[.int .i64 1, .int .i64 n, .string t, .slice p 0 c] 53)) hs)
  have HX := Lib.hid (heap_alloc_new w (.cells #[.int .i64 1, .int .i64 n, .string t, .slice p 0 c] 53))
  unfold FldC
  obtain ⟨q, hq⟩ : ∃ q, plainB t = q := ⟨_, rfl⟩
  have HQ := Lib.hid (show ((chars t).find? unplain).isNone = q from hq)
  rw [hq]
  clear hq hs
  go_enter Tryz.func32, Tryz.ntmps32
  go_wp2_with fail
  refine HP.out.mono ?_
  rintro e w1 ⟨he, hb⟩
  rw [HQ.out] at he
  subst he
  have HB := Lib.hid (HA.out.trans (hb.mono HA.out.size))
  have hx := (hb.block w.heap.size (by simp)).trans HX.out
  obtain ⟨d1, d2⟩ : w1.cell? ⟨w.heap.size, 1, none⟩ = some (.int .i64 n) ∧ w1.cell? ⟨w.heap.size, 2, none⟩ = some (.string t) := by
    refine ⟨?_, ?_⟩ <;> rw [cell_of_row _ _ _ _ _ _ hx] <;> rfl
  clear hb hx
  cases q with
  | false =>
    go_wp2_with fail
    go_ret
    exact ⟨by simp, HB.out⟩
  | true =>
    by_cases h0 : t.size = 0
    · obtain rfl := nilT h0
      go_wp2_with fail
      go_ret
      exact ⟨by simp [show (⟨#[]⟩ : ByteArray).size = 0 from rfl], HB.out⟩
    · have t2 : t.toList.isEmpty = false := notEmpty (by omega)
      by_cases hn : n = 0
      · subst hn
        have H0 := Lib.hid h0
        clear h0
        go_wp2_with fail
        go_ret
        exact ⟨by simp [H0.out], HB.out⟩
      · have t3 : (n == 0) = false := by simpa using hn
        have H0 := Lib.hid hn
        clear h0 hn
        go_wp2_with fail
        go_ret
        exact ⟨by simp [H0.out], HB.out⟩
theorem fld_2 (n : Int) (p : Option Addr) (c : Nat) (st tp : Int) (w : World) : FldC 2 n ⟨#[]⟩ (.slice p 0 c) st tp w (decide (0 ≤ n ∧ n < st)) := by
  unfold FldC
  by_cases h1 : 0 ≤ n
  · by_cases h2 : n < st
    · rw [decide_eq_true ⟨h1, h2⟩]
      go_enter Tryz.func32, Tryz.ntmps32
      go_wp2_with fail
      go_ret
      exact ⟨rfl, (Below.refl _ _).alloc (Nat.le_refl _) _⟩
    · rw [decide_eq_false (fun h => h2 h.2)]
      go_enter Tryz.func32, Tryz.ntmps32
      go_wp2_with fail
      go_ret
      exact ⟨rfl, (Below.refl _ _).alloc (Nat.le_refl _) _⟩
  · rw [decide_eq_false (fun h => h1 h.1)]
    go_enter Tryz.func32, Tryz.ntmps32
    go_wp2_with fail
    go_ret
    exact ⟨rfl, (Below.refl _ _).alloc (Nat.le_refl _) _⟩
theorem fld_3 (n : Int) (p : Option Addr) (c : Nat) (st tp : Int) (w : World) : FldC 3 n ⟨#[]⟩ (.slice p 0 c) st tp w (decide (0 ≤ n ∧ n < tp)) := by
  unfold FldC
  by_cases h1 : 0 ≤ n
  · by_cases h2 : n < tp
    · rw [decide_eq_true ⟨h1, h2⟩]
      go_enter Tryz.func32, Tryz.ntmps32
      go_wp2_with fail
      go_ret
      exact ⟨rfl, (Below.refl _ _).alloc (Nat.le_refl _) _⟩
    · rw [decide_eq_false (fun h => h2 h.2)]
      go_enter Tryz.func32, Tryz.ntmps32
      go_wp2_with fail
      go_ret
      exact ⟨rfl, (Below.refl _ _).alloc (Nat.le_refl _) _⟩
  · rw [decide_eq_false (fun h => h1 h.1)]
    go_enter Tryz.func32, Tryz.ntmps32
    go_wp2_with fail
    go_ret
    exact ⟨rfl, (Below.refl _ _).alloc (Nat.le_refl _) _⟩
theorem fld_4 (n : Int) (p : Option Addr) (c : Nat) (st tp : Int) (w : World) : FldC 4 n ⟨#[]⟩ (.slice p 0 c) st tp w (decide (0 ≤ n ∧ n < tp)) := by
  unfold FldC
  by_cases h1 : 0 ≤ n
  · by_cases h2 : n < tp
    · rw [decide_eq_true ⟨h1, h2⟩]
      go_enter Tryz.func32, Tryz.ntmps32
      go_wp2_with fail
      go_ret
      exact ⟨rfl, (Below.refl _ _).alloc (Nat.le_refl _) _⟩
    · rw [decide_eq_false (fun h => h2 h.2)]
      go_enter Tryz.func32, Tryz.ntmps32
      go_wp2_with fail
      go_ret
      exact ⟨rfl, (Below.refl _ _).alloc (Nat.le_refl _) _⟩
  · rw [decide_eq_false (fun h => h1 h.1)]
    go_enter Tryz.func32, Tryz.ntmps32
    go_wp2_with fail
    go_ret
    exact ⟨rfl, (Below.refl _ _).alloc (Nat.le_refl _) _⟩
theorem fld_8 (n : Int) (p : Option Addr) (c : Nat) (st tp : Int) (w : World) : FldC 8 n ⟨#[]⟩ (.slice p 0 c) st tp w (decide (-1 ≤ n ∧ n < st)) := by
  unfold FldC
  by_cases h1 : -1 ≤ n
  · by_cases h2 : n < st
    · rw [decide_eq_true ⟨h1, h2⟩]
      go_enter Tryz.func32, Tryz.ntmps32
      go_wp2_with fail
      go_ret
      exact ⟨rfl, (Below.refl _ _).alloc (Nat.le_refl _) _⟩
    · rw [decide_eq_false (fun h => h2 h.2)]
      go_enter Tryz.func32, Tryz.ntmps32
      go_wp2_with fail
      go_ret
      exact ⟨rfl, (Below.refl _ _).alloc (Nat.le_refl _) _⟩
  · rw [decide_eq_false (fun h => h1 h.1)]
    go_enter Tryz.func32, Tryz.ntmps32
    go_wp2_with fail
    go_ret
    exact ⟨rfl, (Below.refl _ _).alloc (Nat.le_refl _) _⟩
theorem fld_10 (n : Int) (p : Option Addr) (c : Nat) (st tp : Int) (w : World) : FldC 10 n ⟨#[]⟩ (.slice p 0 c) st tp w (decide (0 ≤ n ∧ n < 2)) := by
  unfold FldC
  by_cases h1 : n = 0
  · subst h1
    go_enter Tryz.func32, Tryz.ntmps32
    go_wp2_with fail
    go_ret
    exact ⟨by simp, (Below.refl _ _).alloc (Nat.le_refl _) _⟩
  · by_cases h2 : n = 1
    · subst h2
      go_enter Tryz.func32, Tryz.ntmps32
      go_wp2_with fail
      go_ret
      exact ⟨by simp, (Below.refl _ _).alloc (Nat.le_refl _) _⟩
    · rw [decide_eq_false (by omega)]
      have t1 : (n == 0) = false := by simpa using h1
      have t2 : (n == 1) = false := by simpa using h2
      clear h1 h2
      go_enter Tryz.func32, Tryz.ntmps32
      go_wp2_with fail
      go_ret
      exact ⟨rfl, (Below.refl _ _).alloc (Nat.le_refl _) _⟩
theorem fld_other (k n : Int) (p : Option Addr) (c : Nat) (st tp : Int) (w : World) (h : k ≠ 1 ∧ k ≠ 2 ∧ k ≠ 3 ∧ k ≠ 4 ∧ k ≠ 8 ∧ k ≠ 10 ∧ k ≠ 12) : FldC k n ⟨#[]⟩ (.slice p 0 c) st tp w (decide (n = 0) && decide (1 ≤ k ∧ k ≤ 14)) := by
  obtain ⟨h1, h2, h3, h4, h8, h10, h12⟩ := h
  have t1 : (k == 1) = false := by simpa using h1
  have t1' : (k != 1) = true := by simpa using h1
  have t2 : (k == 2) = false := by simpa using h2
  have t3 : (k == 3) = false := by simpa using h3
  have t4 : (k == 4) = false := by simpa using h4
  have t8 : (k == 8) = false := by simpa using h8
  have t10 : (k == 10) = false := by simpa using h10
  have t12 : (k == 12) = false := by simpa using h12
  have t12' : (k != 12) = true := by simpa using h12
  have HK := Lib.hid (show (1 ≤ k ↔ 5 ≤ k) by omega)
  clear h1 h2 h3 h4 h8 h10 h12
  unfold FldC
  by_cases h5 : 5 ≤ k
  · by_cases h14 : k ≤ 14
    · by_cases hn : n = 0
      · subst hn
        rw [decide_eq_true (show 1 ≤ k ∧ k ≤ 14 from ⟨HK.out.2 h5, h14⟩)]
        go_enter Tryz.func32, Tryz.ntmps32
        go_wp2_with fail
        go_ret
        exact ⟨by simp, (Below.refl _ _).alloc (Nat.le_refl _) _⟩
      · have t0 : (n == 0) = false := by simpa using hn
        rw [decide_eq_false hn]
        clear hn
        go_enter Tryz.func32, Tryz.ntmps32
        go_wp2_with fail
        go_ret
        exact ⟨by simp, (Below.refl _ _).alloc (Nat.le_refl _) _⟩
    · rw [decide_eq_false (show ¬ (1 ≤ k ∧ k ≤ 14) from fun h => h14 h.2), Bool.and_false]
      go_enter Tryz.func32, Tryz.ntmps32
      go_wp2_with fail
      go_ret
      exact ⟨rfl, (Below.refl _ _).alloc (Nat.le_refl _) _⟩
  · rw [decide_eq_false (show ¬ (1 ≤ k ∧ k ≤ 14) from fun h => h5 (HK.out.1 h.1)), Bool.and_false]
    go_enter Tryz.func32, Tryz.ntmps32
    go_wp2_with fail
    go_ret
    exact ⟨rfl, (Below.refl _ _).alloc (Nat.le_refl _) _⟩
set_option maxHeartbeats 2000000 in
theorem fld_12 {P : Nat → Prop} (n : Int) (ws : List Int) (v : Value) (st tp : Int) (w : World) (h : RdZ P w v ws) : FldC 12 n ⟨#[]⟩ v st tp w (widB ws && decide (n = 0)) := by
  obtain ⟨pa, cap, rfl, h8, h9⟩ := h.form
  have HH := Lib.hid h
  obtain ⟨m, hm⟩ : ∃ m, ws.length = m := ⟨_, rfl⟩
  have HM := Lib.hid hm
  have m62 : m ≤ 9223372036854775807 := by unfold maxLen at h9; omega
  have HA := Lib.hid ((Below.refl w.heap.size w).alloc (Nat.le_refl _) (.cells #[.int .i64 12, .int .i64 n, .string ⟨#[]⟩, .slice pa ws.length cap] 53))
  unfold FldC
  by_cases hn : n = 0
  · subst hn
    by_cases h1 : 1 ≤ ws.length ∧ ws.length ≤ 8
    · have hw : widB ws = !(ws.any fun z => !decide (0 ≤ z ∧ z < 101)) := by
        unfold widB
        rw [decide_eq_true (by omega), Bool.true_and]
      rw [hw]
      obtain ⟨q, hq⟩ : ∃ q, (ws.any fun z => !decide (0 ≤ z ∧ z < 101)) = q := ⟨_, rfl⟩
      have HQ := Lib.hid hq
      rw [hq]
      clear hq
      obtain ⟨h1a, h1b⟩ := h1
      rw [hm] at HA HH h1a h1b ⊢
      have g1 : ¬ ((m : Int) < 1) := by omega
      have g2 : ¬ ((8 : Int) < m) := by omega
      clear h hm h8 h9 hw h1a h1b
      go_enter Tryz.func32, Tryz.ntmps32
      go_wp2_with fail
      go_loopw [115] (fun i wr => ∃ j : Nat, i = .int .i64 j ∧ j ≤ m ∧ Hid ((ws.take j).any (fun z => !decide (0 ≤ z ∧ z < 101)) = false) ∧ Hid (Below w.heap.size w wr)) (fun i _ => m - (intOf i).toNat)
      case atStart => exact ⟨0, rfl, Nat.zero_le _, Lib.hid (by simp), HA⟩
      case round =>
        obtain ⟨j, rfl, hj, HC, HB⟩ := hrel
        by_cases hlt : j < m
        · have hjl : j < ws.length := by rw [HM.out]; exact hlt
          obtain ⟨b, off, rfl, hc⟩ := (HH.out.below HB.out).cell hjl
          have htk := List.take_succ_eq_append_getElem hjl
          have hmem := List.getElem_mem hjl
          obtain ⟨z, hz⟩ : ∃ z, ws[j]'hjl = z := ⟨_, rfl⟩
          rw [hz] at hc htk hmem
          have k1 : (j : Int) < m := by omega
          have HLT := Lib.hid hlt
          have HTK := Lib.hid htk
          have HME := Lib.hid hmem
          clear htk hmem hz hlt
          by_cases z0 : z < 0
          · have HZ := Lib.hid (show (ws.any fun z => !decide (0 ≤ z ∧ z < 101)) = true from List.any_eq_true.2 ⟨z, HME.out, by simp; omega⟩)
            go_wp2_with fail
            go_ret
            exact ⟨by rw [show q = true from HQ.out.symm.trans HZ.out]; rfl, HB.out⟩
          · by_cases z1 : 100 < z
            · have HZ := Lib.hid (show (ws.any fun z => !decide (0 ≤ z ∧ z < 101)) = true from List.any_eq_true.2 ⟨z, HME.out, by simp; omega⟩)
              go_wp2_with fail
              go_ret
              exact ⟨by rw [show q = true from HQ.out.symm.trans HZ.out]; rfl, HB.out⟩
            · have HZ := Lib.hid (show (!decide (0 ≤ z ∧ z < 101)) = false by simp; omega)
              go_wp2_with fail
              go_roundw
              case measure => have := HLT.out; simp [intOf]; omega
              case rel => exact ⟨j + 1, by go_num, HLT.out, Lib.hid (by rw [HTK.out, List.any_append, HC.out, List.any_cons, HZ.out]; rfl), HB⟩
        · obtain rfl : j = m := by omega
          have hz1 : ¬ (j : Int) < j := by omega
          have HC2 := Lib.hid (show (ws.any fun z => !decide (0 ≤ z ∧ z < 101)) = false by have h9 := HC.out; rw [show ws.take j = ws by rw [← HM.out, List.take_length]] at h9; exact h9)
          clear hlt
          go_wp2_with fail
          go_ret
          exact ⟨by rw [show q = false from HQ.out.symm.trans HC2.out]; rfl, HB.out⟩
    · have hw : widB ws = false := by
        unfold widB
        rw [decide_eq_false (by omega), Bool.false_and]
      rw [hw, Bool.false_and]
      rw [hm] at HA h1 ⊢
      clear h hm h8 h9 hw
      by_cases g1 : (m : Int) < 1
      · go_enter Tryz.func32, Tryz.ntmps32
        go_wp2_with fail
        go_ret
        exact ⟨rfl, HA.out⟩
      · have g2 : (8 : Int) < m := by omega
        go_enter Tryz.func32, Tryz.ntmps32
        go_wp2_with fail
        go_ret
        exact ⟨rfl, HA.out⟩
  · rw [decide_eq_false hn, Bool.and_false]
    have t0 : (n != 0) = true := by simpa using hn
    rw [hm] at HA ⊢
    clear h hm h8 h9 hn
    go_enter Tryz.func32, Tryz.ntmps32
    go_wp2_with fail
    go_ret
    exact ⟨rfl, HA.out⟩
theorem fields_ref {P : Nat → Prop} (x : Opr) (st tp : Int) (wv : Value) (w : World) (hw : RdZ P w wv x.w) (hs : x.t.size ≤ 16777216) : FldC x.k x.n x.t wv st tp w (fldB x st tp) := by
  obtain ⟨k, n, t, ws⟩ := x
  dsimp only at hw hs ⊢
  unfold fldB fitB
  dsimp only
  have hw0 := hw
  obtain ⟨p, c, rfl, _, _⟩ := hw.form
  by_cases h1 : k = 1
  · subst h1
    rw [if_pos rfl, show decide ((1 : Int) ≤ 1 ∧ (1 : Int) ≤ 14) = true from rfl, Bool.and_true]
    by_cases hz : ws.length = 0
    · rw [hz, show decide ((0 : Nat) = 0) = true from rfl, Bool.and_true]
      exact fld_1 n t p c st tp w hs
    · rw [decide_eq_false hz, Bool.and_false]
      exact fld_wide1 n t p _ c st tp w (by omega)
  by_cases ht : t.size = 0
  · obtain rfl := nilT ht
    by_cases h12 : k = 12
    · subst h12
      have e := fld_12 n ws _ st tp w hw0
      simpa [show (⟨#[]⟩ : ByteArray) = ByteArray.empty from rfl] using e
    by_cases hz : ws.length = 0
    · rw [hz]
      by_cases h2 : k = 2
      · subst h2
        have e := fld_2 n p c st tp w
        simpa [show (⟨#[]⟩ : ByteArray) = ByteArray.empty from rfl] using e
      by_cases h3 : k = 3
      · subst h3
        have e := fld_3 n p c st tp w
        simpa [show (⟨#[]⟩ : ByteArray) = ByteArray.empty from rfl] using e
      by_cases h4 : k = 4
      · subst h4
        have e := fld_4 n p c st tp w
        simpa [show (⟨#[]⟩ : ByteArray) = ByteArray.empty from rfl] using e
      by_cases h8 : k = 8
      · subst h8
        have e := fld_8 n p c st tp w
        simpa [show (⟨#[]⟩ : ByteArray) = ByteArray.empty from rfl] using e
      by_cases h10 : k = 10
      · subst h10
        have e := fld_10 n p c st tp w
        simpa [show (⟨#[]⟩ : ByteArray) = ByteArray.empty from rfl] using e
      have e := fld_other k n p c st tp w ⟨h1, h2, h3, h4, h8, h10, h12⟩
      rw [if_neg h1, if_neg h2, if_neg (by rintro (h | h); exact h3 h; exact h4 h), if_neg h8, if_neg h10, if_neg h12]
      simpa [show (⟨#[]⟩ : ByteArray) = ByteArray.empty from rfl] using e
    · have e := fld_wide k n p ws.length c st tp w h1 h12 (by omega)
      have hz' : decide (ws.length = 0) = false := decide_eq_false hz
      simp only [if_neg h1, if_neg h12, hz', Bool.and_false, Bool.false_and, ite_self]
      exact e
  · have e := fld_text k n t (.slice p ws.length c) st tp w ⟨_, _, _, rfl⟩ h1 (by omega)
    have hz' : decide (t.size = 0) = false := decide_eq_false ht
    simp only [if_neg h1, hz', Bool.and_false, Bool.false_and, ite_self]
    exact e
end Go.Proofs.YtjohhahfpgfjdaaGreatDoor.Ir
