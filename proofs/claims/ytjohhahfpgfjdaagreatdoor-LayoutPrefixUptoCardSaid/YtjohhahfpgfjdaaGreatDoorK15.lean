/- The texts that the laws of layout stand on, part 15. -/
import Derived.Test.YtjohhahfpgfjdaaGreatDoorK14
import Derived.BigRegion
section
namespace Go.Proofs.YtjohhahfpgfjdaaGreatDoor.Ir
open Go.RowKit Go.Maps Go.Proofs.YtjohhahfpgfjdaaGreatDoor
set_option linter.unusedVariables false
theorem isEmp {s : ByteArray} (h : s.size = 0) : s.toList = [] := by rw [ByteArray.toList_eq]; exact List.eq_nil_of_length_eq_zero (by rw [list_len]; exact h)
def FitsC (st tp : Int) (k n : Int) (t : ByteArray) (ws : List Int) (wv : Value) (w : World) (b : Bool) : Prop := Calls Tryz.prog 49 #[.agg #[.int .i64 k, .int .i64 n, .string t, wv], .int .i64 st, .int .i64 tp] w (SaysL (.bool b) w)

set_option maxRecDepth 100000 in
set_option maxHeartbeats 4000000 in
theorem fit_n2 (P : Nat → Prop) (st tp n : Int) (t : ByteArray) (ws : List Int) (wv : Value) (w : World) (hw : RdZ P w wv ws) : FitsC st tp 2 n t ws wv w (decide (0 ≤ n ∧ n < st) && decide (t.size = 0) && decide (ws.length = 0)) := by
  obtain ⟨pw, cw, rfl, hcw, hcm⟩ := hw.form
  have HW := Lib.hid hw
  obtain ⟨z, hz⟩ : ∃ z, ws.length = z := ⟨_, rfl⟩
  have HZ := Lib.hid hz
  rw [hz] at hcw HW ⊢
  have z62 : z ≤ 9223372036854775807 := by unfold maxLen at hcm; omega
  have HB := Lib.hid (fun o2 => ((Below.refl w.heap.size w).alloc (Nat.le_refl _) (.cells #[.int .i64 2, .int .i64 n, .string t, .slice pw z cw] 53)).alloc (by simp) o2)
  have hx := heap_alloc_new w (.cells #[.int .i64 2, .int .i64 n, .string t, .slice pw z cw] 53)
  clear hz hw hcm
  have HQ := Lib.hid (fun W => within_pro n (0) st W)
  obtain ⟨q, hq⟩ : ∃ q, decide (0 ≤ n ∧ n < st) = q := ⟨_, rfl⟩
  rw [hq] at HQ ⊢
  clear hq
  unfold FitsC
  cases q with
  | false =>
    rw [show (false && decide (t.size = 0) && decide (z = 0)) = false from rfl]
    go_enter Tryz.func49, Tryz.ntmps49
    go_wp2_with fail
    go_region
    go_wp2_with fail
    refine HQ.out _ |>.mono ?_
    rintro e w1 ⟨rfl, rfl⟩
    go_wp2_with fail
    go_ret
    exact ⟨rfl, (HB.out _).drew⟩
  | true =>
    rw [show (true && decide (t.size = 0) && decide (z = 0)) = (decide (t.size = 0) && decide (z = 0)) from rfl]
    by_cases ht : t.size = 0
    · have n1 := isEmp ht
      rw [decide_eq_true ht]
      clear ht
      by_cases h0 : z = 0
      · have h1 : ((z : Int) == 0) = true := by simpa using h0
        have h2 : decide (z = 0) = true := decide_eq_true h0
        rw [h2]
        clear h0 h2
        go_enter Tryz.func49, Tryz.ntmps49
        go_wp2_with fail
        go_region
        go_wp2_with fail
        refine HQ.out _ |>.mono ?_
        rintro e w1 ⟨rfl, rfl⟩
        go_wp2_with fail
        go_ret
        exact ⟨rfl, (HB.out _).drew⟩
      · have h1 : ((z : Int) == 0) = false := by simpa using h0
        have h2 : decide (z = 0) = false := decide_eq_false h0
        rw [h2]
        go_enter Tryz.func49, Tryz.ntmps49
        go_wp2_with fail
        go_region
        go_wp2_with fail
        refine HQ.out _ |>.mono ?_
        rintro e w1 ⟨rfl, rfl⟩
        go_wp2_with fail
        go_ret
        exact ⟨rfl, (HB.out _).drew⟩
    · have n1 := notEmpty (s := t) (by omega)
      rw [decide_eq_false ht]
      clear ht
      rw [show (false && decide (z = 0)) = false from rfl]
      go_enter Tryz.func49, Tryz.ntmps49
      go_wp2_with fail
      go_region
      go_wp2_with fail
      refine HQ.out _ |>.mono ?_
      rintro e w1 ⟨rfl, rfl⟩
      go_wp2_with fail
      go_ret
      exact ⟨rfl, (HB.out _).drew⟩

set_option maxRecDepth 100000 in
set_option maxHeartbeats 4000000 in
theorem fit_n3 (P : Nat → Prop) (st tp n : Int) (t : ByteArray) (ws : List Int) (wv : Value) (w : World) (hw : RdZ P w wv ws) : FitsC st tp 3 n t ws wv w (decide (0 ≤ n ∧ n < tp) && decide (t.size = 0) && decide (ws.length = 0)) := by
  obtain ⟨pw, cw, rfl, hcw, hcm⟩ := hw.form
  have HW := Lib.hid hw
  obtain ⟨z, hz⟩ : ∃ z, ws.length = z := ⟨_, rfl⟩
  have HZ := Lib.hid hz
  rw [hz] at hcw HW ⊢
  have z62 : z ≤ 9223372036854775807 := by unfold maxLen at hcm; omega
  have HB := Lib.hid (fun o2 => ((Below.refl w.heap.size w).alloc (Nat.le_refl _) (.cells #[.int .i64 3, .int .i64 n, .string t, .slice pw z cw] 53)).alloc (by simp) o2)
  have hx := heap_alloc_new w (.cells #[.int .i64 3, .int .i64 n, .string t, .slice pw z cw] 53)
  clear hz hw hcm
  have HQ := Lib.hid (fun W => within_pro n (0) tp W)
  obtain ⟨q, hq⟩ : ∃ q, decide (0 ≤ n ∧ n < tp) = q := ⟨_, rfl⟩
  rw [hq] at HQ ⊢
  clear hq
  unfold FitsC
  cases q with
  | false =>
    rw [show (false && decide (t.size = 0) && decide (z = 0)) = false from rfl]
    go_enter Tryz.func49, Tryz.ntmps49
    go_wp2_with fail
    go_region
    go_wp2_with fail
    refine HQ.out _ |>.mono ?_
    rintro e w1 ⟨rfl, rfl⟩
    go_wp2_with fail
    go_ret
    exact ⟨rfl, (HB.out _).drew⟩
  | true =>
    rw [show (true && decide (t.size = 0) && decide (z = 0)) = (decide (t.size = 0) && decide (z = 0)) from rfl]
    by_cases ht : t.size = 0
    · have n1 := isEmp ht
      rw [decide_eq_true ht]
      clear ht
      by_cases h0 : z = 0
      · have h1 : ((z : Int) == 0) = true := by simpa using h0
        have h2 : decide (z = 0) = true := decide_eq_true h0
        rw [h2]
        clear h0 h2
        go_enter Tryz.func49, Tryz.ntmps49
        go_wp2_with fail
        go_region
        go_wp2_with fail
        refine HQ.out _ |>.mono ?_
        rintro e w1 ⟨rfl, rfl⟩
        go_wp2_with fail
        go_ret
        exact ⟨rfl, (HB.out _).drew⟩
      · have h1 : ((z : Int) == 0) = false := by simpa using h0
        have h2 : decide (z = 0) = false := decide_eq_false h0
        rw [h2]
        go_enter Tryz.func49, Tryz.ntmps49
        go_wp2_with fail
        go_region
        go_wp2_with fail
        refine HQ.out _ |>.mono ?_
        rintro e w1 ⟨rfl, rfl⟩
        go_wp2_with fail
        go_ret
        exact ⟨rfl, (HB.out _).drew⟩
    · have n1 := notEmpty (s := t) (by omega)
      rw [decide_eq_false ht]
      clear ht
      rw [show (false && decide (z = 0)) = false from rfl]
      go_enter Tryz.func49, Tryz.ntmps49
      go_wp2_with fail
      go_region
      go_wp2_with fail
      refine HQ.out _ |>.mono ?_
      rintro e w1 ⟨rfl, rfl⟩
      go_wp2_with fail
      go_ret
      exact ⟨rfl, (HB.out _).drew⟩

set_option maxRecDepth 100000 in
set_option maxHeartbeats 4000000 in
theorem fit_n4 (P : Nat → Prop) (st tp n : Int) (t : ByteArray) (ws : List Int) (wv : Value) (w : World) (hw : RdZ P w wv ws) : FitsC st tp 4 n t ws wv w (decide (0 ≤ n ∧ n < tp) && decide (t.size = 0) && decide (ws.length = 0)) := by
  obtain ⟨pw, cw, rfl, hcw, hcm⟩ := hw.form
  have HW := Lib.hid hw
  obtain ⟨z, hz⟩ : ∃ z, ws.length = z := ⟨_, rfl⟩
  have HZ := Lib.hid hz
  rw [hz] at hcw HW ⊢
  have z62 : z ≤ 9223372036854775807 := by unfold maxLen at hcm; omega
  have HB := Lib.hid (fun o2 => ((Below.refl w.heap.size w).alloc (Nat.le_refl _) (.cells #[.int .i64 4, .int .i64 n, .string t, .slice pw z cw] 53)).alloc (by simp) o2)
  have hx := heap_alloc_new w (.cells #[.int .i64 4, .int .i64 n, .string t, .slice pw z cw] 53)
  clear hz hw hcm
  have HQ := Lib.hid (fun W => within_pro n (0) tp W)
  obtain ⟨q, hq⟩ : ∃ q, decide (0 ≤ n ∧ n < tp) = q := ⟨_, rfl⟩
  rw [hq] at HQ ⊢
  clear hq
  unfold FitsC
  cases q with
  | false =>
    rw [show (false && decide (t.size = 0) && decide (z = 0)) = false from rfl]
    go_enter Tryz.func49, Tryz.ntmps49
    go_wp2_with fail
    go_region
    go_wp2_with fail
    refine HQ.out _ |>.mono ?_
    rintro e w1 ⟨rfl, rfl⟩
    go_wp2_with fail
    go_ret
    exact ⟨rfl, (HB.out _).drew⟩
  | true =>
    rw [show (true && decide (t.size = 0) && decide (z = 0)) = (decide (t.size = 0) && decide (z = 0)) from rfl]
    by_cases ht : t.size = 0
    · have n1 := isEmp ht
      rw [decide_eq_true ht]
      clear ht
      by_cases h0 : z = 0
      · have h1 : ((z : Int) == 0) = true := by simpa using h0
        have h2 : decide (z = 0) = true := decide_eq_true h0
        rw [h2]
        clear h0 h2
        go_enter Tryz.func49, Tryz.ntmps49
        go_wp2_with fail
        go_region
        go_wp2_with fail
        refine HQ.out _ |>.mono ?_
        rintro e w1 ⟨rfl, rfl⟩
        go_wp2_with fail
        go_ret
        exact ⟨rfl, (HB.out _).drew⟩
      · have h1 : ((z : Int) == 0) = false := by simpa using h0
        have h2 : decide (z = 0) = false := decide_eq_false h0
        rw [h2]
        go_enter Tryz.func49, Tryz.ntmps49
        go_wp2_with fail
        go_region
        go_wp2_with fail
        refine HQ.out _ |>.mono ?_
        rintro e w1 ⟨rfl, rfl⟩
        go_wp2_with fail
        go_ret
        exact ⟨rfl, (HB.out _).drew⟩
    · have n1 := notEmpty (s := t) (by omega)
      rw [decide_eq_false ht]
      clear ht
      rw [show (false && decide (z = 0)) = false from rfl]
      go_enter Tryz.func49, Tryz.ntmps49
      go_wp2_with fail
      go_region
      go_wp2_with fail
      refine HQ.out _ |>.mono ?_
      rintro e w1 ⟨rfl, rfl⟩
      go_wp2_with fail
      go_ret
      exact ⟨rfl, (HB.out _).drew⟩

set_option maxRecDepth 100000 in
set_option maxHeartbeats 4000000 in
theorem fit_n8 (P : Nat → Prop) (st tp n : Int) (t : ByteArray) (ws : List Int) (wv : Value) (w : World) (hw : RdZ P w wv ws) : FitsC st tp 8 n t ws wv w (decide (-1 ≤ n ∧ n < st) && decide (t.size = 0) && decide (ws.length = 0)) := by
  obtain ⟨pw, cw, rfl, hcw, hcm⟩ := hw.form
  have HW := Lib.hid hw
  obtain ⟨z, hz⟩ : ∃ z, ws.length = z := ⟨_, rfl⟩
  have HZ := Lib.hid hz
  rw [hz] at hcw HW ⊢
  have z62 : z ≤ 9223372036854775807 := by unfold maxLen at hcm; omega
  have HB := Lib.hid (fun o2 => ((Below.refl w.heap.size w).alloc (Nat.le_refl _) (.cells #[.int .i64 8, .int .i64 n, .string t, .slice pw z cw] 53)).alloc (by simp) o2)
  have hx := heap_alloc_new w (.cells #[.int .i64 8, .int .i64 n, .string t, .slice pw z cw] 53)
  clear hz hw hcm
  have HQ := Lib.hid (fun W => within_pro n (-1) st W)
  obtain ⟨q, hq⟩ : ∃ q, decide (-1 ≤ n ∧ n < st) = q := ⟨_, rfl⟩
  rw [hq] at HQ ⊢
  clear hq
  unfold FitsC
  cases q with
  | false =>
    rw [show (false && decide (t.size = 0) && decide (z = 0)) = false from rfl]
    go_enter Tryz.func49, Tryz.ntmps49
    go_wp2_with fail
    go_region
    go_wp2_with fail
    refine HQ.out _ |>.mono ?_
    rintro e w1 ⟨rfl, rfl⟩
    go_wp2_with fail
    go_ret
    exact ⟨rfl, (HB.out _).drew⟩
  | true =>
    rw [show (true && decide (t.size = 0) && decide (z = 0)) = (decide (t.size = 0) && decide (z = 0)) from rfl]
    by_cases ht : t.size = 0
    · have n1 := isEmp ht
      rw [decide_eq_true ht]
      clear ht
      by_cases h0 : z = 0
      · have h1 : ((z : Int) == 0) = true := by simpa using h0
        have h2 : decide (z = 0) = true := decide_eq_true h0
        rw [h2]
        clear h0 h2
        go_enter Tryz.func49, Tryz.ntmps49
        go_wp2_with fail
        go_region
        go_wp2_with fail
        refine HQ.out _ |>.mono ?_
        rintro e w1 ⟨rfl, rfl⟩
        go_wp2_with fail
        go_ret
        exact ⟨rfl, (HB.out _).drew⟩
      · have h1 : ((z : Int) == 0) = false := by simpa using h0
        have h2 : decide (z = 0) = false := decide_eq_false h0
        rw [h2]
        go_enter Tryz.func49, Tryz.ntmps49
        go_wp2_with fail
        go_region
        go_wp2_with fail
        refine HQ.out _ |>.mono ?_
        rintro e w1 ⟨rfl, rfl⟩
        go_wp2_with fail
        go_ret
        exact ⟨rfl, (HB.out _).drew⟩
    · have n1 := notEmpty (s := t) (by omega)
      rw [decide_eq_false ht]
      clear ht
      rw [show (false && decide (z = 0)) = false from rfl]
      go_enter Tryz.func49, Tryz.ntmps49
      go_wp2_with fail
      go_region
      go_wp2_with fail
      refine HQ.out _ |>.mono ?_
      rintro e w1 ⟨rfl, rfl⟩
      go_wp2_with fail
      go_ret
      exact ⟨rfl, (HB.out _).drew⟩

set_option maxRecDepth 100000 in
set_option maxHeartbeats 4000000 in
theorem fit_n10 (P : Nat → Prop) (st tp n : Int) (t : ByteArray) (ws : List Int) (wv : Value) (w : World) (hw : RdZ P w wv ws) : FitsC st tp 10 n t ws wv w (decide (0 ≤ n ∧ n < 2) && decide (t.size = 0) && decide (ws.length = 0)) := by
  obtain ⟨pw, cw, rfl, hcw, hcm⟩ := hw.form
  have HW := Lib.hid hw
  obtain ⟨z, hz⟩ : ∃ z, ws.length = z := ⟨_, rfl⟩
  have HZ := Lib.hid hz
  rw [hz] at hcw HW ⊢
  have z62 : z ≤ 9223372036854775807 := by unfold maxLen at hcm; omega
  have HB := Lib.hid (fun o2 => ((Below.refl w.heap.size w).alloc (Nat.le_refl _) (.cells #[.int .i64 10, .int .i64 n, .string t, .slice pw z cw] 53)).alloc (by simp) o2)
  have hx := heap_alloc_new w (.cells #[.int .i64 10, .int .i64 n, .string t, .slice pw z cw] 53)
  clear hz hw hcm
  have HQ := Lib.hid (fun W => within_pro n (0) 2 W)
  obtain ⟨q, hq⟩ : ∃ q, decide (0 ≤ n ∧ n < 2) = q := ⟨_, rfl⟩
  rw [hq] at HQ ⊢
  clear hq
  unfold FitsC
  cases q with
  | false =>
    rw [show (false && decide (t.size = 0) && decide (z = 0)) = false from rfl]
    go_enter Tryz.func49, Tryz.ntmps49
    go_wp2_with fail
    go_region
    go_wp2_with fail
    refine HQ.out _ |>.mono ?_
    rintro e w1 ⟨rfl, rfl⟩
    go_wp2_with fail
    go_ret
    exact ⟨rfl, (HB.out _).drew⟩
  | true =>
    rw [show (true && decide (t.size = 0) && decide (z = 0)) = (decide (t.size = 0) && decide (z = 0)) from rfl]
    by_cases ht : t.size = 0
    · have n1 := isEmp ht
      rw [decide_eq_true ht]
      clear ht
      by_cases h0 : z = 0
      · have h1 : ((z : Int) == 0) = true := by simpa using h0
        have h2 : decide (z = 0) = true := decide_eq_true h0
        rw [h2]
        clear h0 h2
        go_enter Tryz.func49, Tryz.ntmps49
        go_wp2_with fail
        go_region
        go_wp2_with fail
        refine HQ.out _ |>.mono ?_
        rintro e w1 ⟨rfl, rfl⟩
        go_wp2_with fail
        go_ret
        exact ⟨rfl, (HB.out _).drew⟩
      · have h1 : ((z : Int) == 0) = false := by simpa using h0
        have h2 : decide (z = 0) = false := decide_eq_false h0
        rw [h2]
        go_enter Tryz.func49, Tryz.ntmps49
        go_wp2_with fail
        go_region
        go_wp2_with fail
        refine HQ.out _ |>.mono ?_
        rintro e w1 ⟨rfl, rfl⟩
        go_wp2_with fail
        go_ret
        exact ⟨rfl, (HB.out _).drew⟩
    · have n1 := notEmpty (s := t) (by omega)
      rw [decide_eq_false ht]
      clear ht
      rw [show (false && decide (z = 0)) = false from rfl]
      go_enter Tryz.func49, Tryz.ntmps49
      go_wp2_with fail
      go_region
      go_wp2_with fail
      refine HQ.out _ |>.mono ?_
      rintro e w1 ⟨rfl, rfl⟩
      go_wp2_with fail
      go_ret
      exact ⟨rfl, (HB.out _).drew⟩

set_option maxRecDepth 100000 in
set_option maxHeartbeats 4000000 in
theorem fit_other (P : Nat → Prop) (st tp k n : Int) (t : ByteArray) (ws : List Int) (wv : Value) (w : World) (hk : k ≠ 1 ∧ k ≠ 2 ∧ k ≠ 3 ∧ k ≠ 4 ∧ k ≠ 8 ∧ k ≠ 10 ∧ k ≠ 12) (hw : RdZ P w wv ws) : FitsC st tp k n t ws wv w (decide (n = 0) && decide (t.size = 0) && decide (ws.length = 0)) := by
  obtain ⟨pw, cw, rfl, hcw, hcm⟩ := hw.form
  have HW := Lib.hid hw
  obtain ⟨z, hz⟩ : ∃ z, ws.length = z := ⟨_, rfl⟩
  have HZ := Lib.hid hz
  rw [hz] at hcw HW ⊢
  have z62 : z ≤ 9223372036854775807 := by unfold maxLen at hcm; omega
  have HB := Lib.hid (fun o2 => ((Below.refl w.heap.size w).alloc (Nat.le_refl _) (.cells #[.int .i64 k, .int .i64 n, .string t, .slice pw z cw] 53)).alloc (by simp) o2)
  have hx := heap_alloc_new w (.cells #[.int .i64 k, .int .i64 n, .string t, .slice pw z cw] 53)
  have k1 : (k == 1) = false := by simp; omega
  have k2 : (k == 2) = false := by simp; omega
  have k3 : (k == 3) = false := by simp; omega
  have k4 : (k == 4) = false := by simp; omega
  have k8 : (k == 8) = false := by simp; omega
  have k10 : (k == 10) = false := by simp; omega
  have k12 : (k == 12) = false := by simp; omega
  clear hz hw hcm
  unfold FitsC
  by_cases hn : n = 0
  · subst hn
    rw [show (decide ((0 : Int) = 0) && decide (t.size = 0) && decide (z = 0)) = (decide (t.size = 0) && decide (z = 0)) from by simp]
    by_cases ht : t.size = 0
    · have n1 := isEmp ht
      rw [decide_eq_true ht]
      clear ht
      by_cases h0 : z = 0
      · have h1 : ((z : Int) == 0) = true := by simpa using h0
        have h2 : decide (z = 0) = true := decide_eq_true h0
        rw [h2]
        clear h0 h2
        go_enter Tryz.func49, Tryz.ntmps49
        go_wp2_with fail
        go_region
        go_wp2_with fail
        go_ret
        exact ⟨rfl, (HB.out _).drew⟩
      · have h1 : ((z : Int) == 0) = false := by simpa using h0
        have h2 : decide (z = 0) = false := decide_eq_false h0
        rw [h2]
        go_enter Tryz.func49, Tryz.ntmps49
        go_wp2_with fail
        go_region
        go_wp2_with fail
        go_ret
        exact ⟨rfl, (HB.out _).drew⟩
    · have n1 := notEmpty (s := t) (by omega)
      rw [decide_eq_false ht]
      clear ht
      rw [show (false && decide (z = 0)) = false from rfl]
      go_enter Tryz.func49, Tryz.ntmps49
      go_wp2_with fail
      go_region
      go_wp2_with fail
      go_ret
      exact ⟨rfl, (HB.out _).drew⟩
  · have h3 : (n == 0) = false := by simpa using hn
    rw [decide_eq_false hn, show (false && decide (t.size = 0) && decide (z = 0)) = false from rfl]
    go_enter Tryz.func49, Tryz.ntmps49
    go_wp2_with fail
    go_region
    go_wp2_with fail
    go_ret
    exact ⟨rfl, (HB.out _).drew⟩

set_option maxRecDepth 100000 in
set_option maxHeartbeats 4000000 in
theorem fit_text (P : Nat → Prop) (st tp n : Int) (t : ByteArray) (ws : List Int) (wv : Value) (w : World) (hw : RdZ P w wv ws) (hs : t.size ≤ 16777216) (hT : Tabs w) : FitsC st tp 1 n t ws wv w (plainB t && !decide (t.size = 0) && decide (n = 0) && decide (ws.length = 0)) := by
  obtain ⟨pw, cw, rfl, hcw, hcm⟩ := hw.form
  have HW := Lib.hid hw
  obtain ⟨z, hz⟩ : ∃ z, ws.length = z := ⟨_, rfl⟩
  have HZ := Lib.hid hz
  rw [hz] at hcw HW ⊢
  have z62 : z ≤ 9223372036854775807 := by unfold maxLen at hcm; omega
  have HB := Lib.hid (fun o2 => ((Below.refl w.heap.size w).alloc (Nat.le_refl _) (.cells #[.int .i64 1, .int .i64 n, .string t, .slice pw z cw] 53)).alloc (by simp) o2)
  have hx := heap_alloc_new w (.cells #[.int .i64 1, .int .i64 n, .string t, .slice pw z cw] 53)
  clear hz hw hcm
  have hx1 := heap_alloc_new (w.alloc (.cells #[.int .i64 1, .int .i64 n, .string t, .slice pw z cw] 53)) (.cells #[.int .i64 1, .int .i64 n, .string t, .slice pw z cw] 53)
  rw [show (w.alloc (.cells #[.int .i64 1, .int .i64 n, .string t, .slice pw z cw] 53)).heap.size = w.heap.size + 1 by simp] at hx1
  have HT := Lib.hid hT
  have hq0 : Hid (∀ W, Below w.heap.size w W → Calls Tryz.prog 76 #[.string t] W (SaysL (.bool (plainB t && !decide (t.size = 0))) W)) := Lib.hid (fun W hb => isText_pro t W hs (HT.out.below hb (Nat.le_refl _)))
  have HQ := Lib.hid (hq0.out _ (HB.out (.cells #[.int .i64 1, .int .i64 n, .string t, .slice pw z cw] 53)).drew)
  obtain ⟨q, hq⟩ : ∃ q, (plainB t && !decide (t.size = 0)) = q := ⟨_, rfl⟩
  rw [hq] at HQ ⊢
  clear hq hT hq0 hs
  unfold FitsC
  cases q with
  | false =>
    rw [show (false && decide (n = 0) && decide (z = 0)) = false from rfl]
    go_enter Tryz.func49, Tryz.ntmps49
    go_wp2_with fail
    go_region
    go_wp2_with fail
    refine (HQ.out).mono ?_
    rintro e w1 ⟨rfl, hb⟩
    have hs2 : w.heap.size + 1 < ((w.alloc (.cells #[.int .i64 1, .int .i64 n, .string t, .slice pw z cw] 53)).alloc (.cells #[.int .i64 1, .int .i64 n, .string t, .slice pw z cw] 53)).drew.heap.size := by simp
    have y1 := hb.block (w.heap.size + 1) hs2
    have HB2 := Lib.hid ((HB.out (.cells #[.int .i64 1, .int .i64 n, .string t, .slice pw z cw] 53)).drew.trans (hb.mono (HB.out (.cells #[.int .i64 1, .int .i64 n, .string t, .slice pw z cw] 53)).drew.size))
    have y2 := y1.trans hx1
    clear y1 hs2 hb
    obtain ⟨e0, e1, e2, e3⟩ : w1.cell? ⟨w.heap.size + 1, 0, none⟩ = some (.int .i64 1) ∧ w1.cell? ⟨w.heap.size + 1, 1, none⟩ = some (.int .i64 n) ∧ w1.cell? ⟨w.heap.size + 1, 2, none⟩ = some (.string t) ∧ w1.cell? ⟨w.heap.size + 1, 3, none⟩ = some (.slice pw z cw) := by
      refine ⟨?_, ?_, ?_, ?_⟩ <;> rw [cell_of_row _ _ _ _ _ _ y2] <;> rfl
    have g2 : w1.frozen? ⟨w.heap.size + 1, 2, none⟩ = false := frozen_of_row w1 _ _ _ _ y2
    have g3 : w1.frozen? ⟨w.heap.size + 1, 3, none⟩ = false := frozen_of_row w1 _ _ _ _ y2
    have HF := Lib.hid (show w.heap.size ≤ w.heap.size + 1 by omega)
    clear y2
    go_wp2_with fail
    go_ret
    exact ⟨rfl, HB2.out.setCell (p := ⟨w.heap.size + 1, _, none⟩) HF.out _⟩
  | true =>
    rw [show (true && decide (n = 0) && decide (z = 0)) = (decide (n = 0) && decide (z = 0)) from rfl]
    by_cases hn : n = 0
    · have h3 : (n == 0) = true := by simpa using hn
      rw [decide_eq_true hn]
      clear hn
      by_cases h0 : z = 0
      · have h1 : ((z : Int) == 0) = true := by simpa using h0
        have h2 : decide (z = 0) = true := decide_eq_true h0
        rw [h2]
        clear h0 h2
        go_enter Tryz.func49, Tryz.ntmps49
        go_wp2_with fail
        go_region
        go_wp2_with fail
        refine (HQ.out).mono ?_
        rintro e w1 ⟨rfl, hb⟩
        have hs2 : w.heap.size + 1 < ((w.alloc (.cells #[.int .i64 1, .int .i64 n, .string t, .slice pw z cw] 53)).alloc (.cells #[.int .i64 1, .int .i64 n, .string t, .slice pw z cw] 53)).drew.heap.size := by simp
        have y1 := hb.block (w.heap.size + 1) hs2
        have HB2 := Lib.hid ((HB.out (.cells #[.int .i64 1, .int .i64 n, .string t, .slice pw z cw] 53)).drew.trans (hb.mono (HB.out (.cells #[.int .i64 1, .int .i64 n, .string t, .slice pw z cw] 53)).drew.size))
        have y2 := y1.trans hx1
        clear y1 hs2 hb
        obtain ⟨e0, e1, e2, e3⟩ : w1.cell? ⟨w.heap.size + 1, 0, none⟩ = some (.int .i64 1) ∧ w1.cell? ⟨w.heap.size + 1, 1, none⟩ = some (.int .i64 n) ∧ w1.cell? ⟨w.heap.size + 1, 2, none⟩ = some (.string t) ∧ w1.cell? ⟨w.heap.size + 1, 3, none⟩ = some (.slice pw z cw) := by
          refine ⟨?_, ?_, ?_, ?_⟩ <;> rw [cell_of_row _ _ _ _ _ _ y2] <;> rfl
        have g2 : w1.frozen? ⟨w.heap.size + 1, 2, none⟩ = false := frozen_of_row w1 _ _ _ _ y2
        have g3 : w1.frozen? ⟨w.heap.size + 1, 3, none⟩ = false := frozen_of_row w1 _ _ _ _ y2
        have HF := Lib.hid (show w.heap.size ≤ w.heap.size + 1 by omega)
        clear y2
        go_wp2_with fail
        go_ret
        exact ⟨rfl, HB2.out.setCell (p := ⟨w.heap.size + 1, _, none⟩) HF.out _⟩
      · have h1 : ((z : Int) == 0) = false := by simpa using h0
        have h2 : decide (z = 0) = false := decide_eq_false h0
        rw [h2]
        go_enter Tryz.func49, Tryz.ntmps49
        go_wp2_with fail
        go_region
        go_wp2_with fail
        refine (HQ.out).mono ?_
        rintro e w1 ⟨rfl, hb⟩
        have hs2 : w.heap.size + 1 < ((w.alloc (.cells #[.int .i64 1, .int .i64 n, .string t, .slice pw z cw] 53)).alloc (.cells #[.int .i64 1, .int .i64 n, .string t, .slice pw z cw] 53)).drew.heap.size := by simp
        have y1 := hb.block (w.heap.size + 1) hs2
        have HB2 := Lib.hid ((HB.out (.cells #[.int .i64 1, .int .i64 n, .string t, .slice pw z cw] 53)).drew.trans (hb.mono (HB.out (.cells #[.int .i64 1, .int .i64 n, .string t, .slice pw z cw] 53)).drew.size))
        have y2 := y1.trans hx1
        clear y1 hs2 hb
        obtain ⟨e0, e1, e2, e3⟩ : w1.cell? ⟨w.heap.size + 1, 0, none⟩ = some (.int .i64 1) ∧ w1.cell? ⟨w.heap.size + 1, 1, none⟩ = some (.int .i64 n) ∧ w1.cell? ⟨w.heap.size + 1, 2, none⟩ = some (.string t) ∧ w1.cell? ⟨w.heap.size + 1, 3, none⟩ = some (.slice pw z cw) := by
          refine ⟨?_, ?_, ?_, ?_⟩ <;> rw [cell_of_row _ _ _ _ _ _ y2] <;> rfl
        have g2 : w1.frozen? ⟨w.heap.size + 1, 2, none⟩ = false := frozen_of_row w1 _ _ _ _ y2
        have g3 : w1.frozen? ⟨w.heap.size + 1, 3, none⟩ = false := frozen_of_row w1 _ _ _ _ y2
        have HF := Lib.hid (show w.heap.size ≤ w.heap.size + 1 by omega)
        clear y2
        go_wp2_with fail
        go_ret
        exact ⟨rfl, HB2.out.setCell (p := ⟨w.heap.size + 1, _, none⟩) HF.out _⟩
    · have h3 : (n == 0) = false := by simpa using hn
      rw [decide_eq_false hn]
      clear hn
      rw [show (false && decide (z = 0)) = false from rfl]
      go_enter Tryz.func49, Tryz.ntmps49
      go_wp2_with fail
      go_region
      go_wp2_with fail
      refine (HQ.out).mono ?_
      rintro e w1 ⟨rfl, hb⟩
      have hs2 : w.heap.size + 1 < ((w.alloc (.cells #[.int .i64 1, .int .i64 n, .string t, .slice pw z cw] 53)).alloc (.cells #[.int .i64 1, .int .i64 n, .string t, .slice pw z cw] 53)).drew.heap.size := by simp
      have y1 := hb.block (w.heap.size + 1) hs2
      have HB2 := Lib.hid ((HB.out (.cells #[.int .i64 1, .int .i64 n, .string t, .slice pw z cw] 53)).drew.trans (hb.mono (HB.out (.cells #[.int .i64 1, .int .i64 n, .string t, .slice pw z cw] 53)).drew.size))
      have y2 := y1.trans hx1
      clear y1 hs2 hb
      obtain ⟨e0, e1, e2, e3⟩ : w1.cell? ⟨w.heap.size + 1, 0, none⟩ = some (.int .i64 1) ∧ w1.cell? ⟨w.heap.size + 1, 1, none⟩ = some (.int .i64 n) ∧ w1.cell? ⟨w.heap.size + 1, 2, none⟩ = some (.string t) ∧ w1.cell? ⟨w.heap.size + 1, 3, none⟩ = some (.slice pw z cw) := by
        refine ⟨?_, ?_, ?_, ?_⟩ <;> rw [cell_of_row _ _ _ _ _ _ y2] <;> rfl
      have g2 : w1.frozen? ⟨w.heap.size + 1, 2, none⟩ = false := frozen_of_row w1 _ _ _ _ y2
      have g3 : w1.frozen? ⟨w.heap.size + 1, 3, none⟩ = false := frozen_of_row w1 _ _ _ _ y2
      have HF := Lib.hid (show w.heap.size ≤ w.heap.size + 1 by omega)
      clear y2
      go_wp2_with fail
      go_ret
      exact ⟨rfl, HB2.out.setCell (p := ⟨w.heap.size + 1, _, none⟩) HF.out _⟩

set_option maxRecDepth 100000 in
set_option maxHeartbeats 4000000 in
theorem fit_table (P : Nat → Prop) (st tp n : Int) (t : ByteArray) (ws : List Int) (wv : Value) (w : World) (hw : RdZ P w wv ws) : FitsC st tp 12 n t ws wv w (widB ws && decide (n = 0) && decide (t.size = 0)) := by
  obtain ⟨pw, cw, rfl, hcw, hcm⟩ := hw.form
  have HW := Lib.hid hw
  obtain ⟨z, hz⟩ : ∃ z, ws.length = z := ⟨_, rfl⟩
  have HZ := Lib.hid hz
  rw [hz] at hcw HW ⊢
  have z62 : z ≤ 9223372036854775807 := by unfold maxLen at hcm; omega
  have HB := Lib.hid (fun o2 => ((Below.refl w.heap.size w).alloc (Nat.le_refl _) (.cells #[.int .i64 12, .int .i64 n, .string t, .slice pw z cw] 53)).alloc (by simp) o2)
  have hx := heap_alloc_new w (.cells #[.int .i64 12, .int .i64 n, .string t, .slice pw z cw] 53)
  clear hz hw hcm
  have hx1 := heap_alloc_new (w.alloc (.cells #[.int .i64 12, .int .i64 n, .string t, .slice pw z cw] 53)) (.cells #[.int .i64 12, .int .i64 n, .string t, .slice pw z cw] 53)
  rw [show (w.alloc (.cells #[.int .i64 12, .int .i64 n, .string t, .slice pw z cw] 53)).heap.size = w.heap.size + 1 by simp] at hx1
  have hqq := widths_pro ws (.slice pw z cw) _ (HW.out.below (HB.out (.cells #[.int .i64 12, .int .i64 n, .string t, .slice pw z cw] 53)).drew)
  have HQ := Lib.hid hqq
  obtain ⟨q, hq⟩ : ∃ q, widB ws = q := ⟨_, rfl⟩
  rw [hq] at HQ ⊢
  clear hq hqq
  unfold FitsC
  cases q with
  | false =>
    rw [show (false && decide (n = 0) && decide (t.size = 0)) = false from rfl]
    go_enter Tryz.func49, Tryz.ntmps49
    go_wp2_with fail
    go_region
    go_wp2_with fail
    refine (HQ.out).mono ?_
    rintro e w1 ⟨rfl, hb⟩
    have hs2 : w.heap.size + 1 < ((w.alloc (.cells #[.int .i64 12, .int .i64 n, .string t, .slice pw z cw] 53)).alloc (.cells #[.int .i64 12, .int .i64 n, .string t, .slice pw z cw] 53)).drew.heap.size := by simp
    have y1 := hb.block (w.heap.size + 1) hs2
    have HB2 := Lib.hid ((HB.out (.cells #[.int .i64 12, .int .i64 n, .string t, .slice pw z cw] 53)).drew.trans (hb.mono (HB.out (.cells #[.int .i64 12, .int .i64 n, .string t, .slice pw z cw] 53)).drew.size))
    have y2 := y1.trans hx1
    clear y1 hs2 hb
    obtain ⟨e0, e1, e2, e3⟩ : w1.cell? ⟨w.heap.size + 1, 0, none⟩ = some (.int .i64 12) ∧ w1.cell? ⟨w.heap.size + 1, 1, none⟩ = some (.int .i64 n) ∧ w1.cell? ⟨w.heap.size + 1, 2, none⟩ = some (.string t) ∧ w1.cell? ⟨w.heap.size + 1, 3, none⟩ = some (.slice pw z cw) := by
      refine ⟨?_, ?_, ?_, ?_⟩ <;> rw [cell_of_row _ _ _ _ _ _ y2] <;> rfl
    have g2 : w1.frozen? ⟨w.heap.size + 1, 2, none⟩ = false := frozen_of_row w1 _ _ _ _ y2
    have g3 : w1.frozen? ⟨w.heap.size + 1, 3, none⟩ = false := frozen_of_row w1 _ _ _ _ y2
    have HF := Lib.hid (show w.heap.size ≤ w.heap.size + 1 by omega)
    clear y2
    go_wp2_with fail
    go_ret
    exact ⟨rfl, HB2.out.setCell (p := ⟨w.heap.size + 1, _, none⟩) HF.out _⟩
  | true =>
    rw [show (true && decide (n = 0) && decide (t.size = 0)) = (decide (n = 0) && decide (t.size = 0)) from rfl]
    by_cases hn : n = 0
    · have h3 : (n == 0) = true := by simpa using hn
      rw [decide_eq_true hn]
      clear hn
      by_cases ht : t.size = 0
      · have n1 := isEmp ht
        rw [decide_eq_true ht]
        clear ht
        go_enter Tryz.func49, Tryz.ntmps49
        go_wp2_with fail
        go_region
        go_wp2_with fail
        refine (HQ.out).mono ?_
        rintro e w1 ⟨rfl, hb⟩
        have hs2 : w.heap.size + 1 < ((w.alloc (.cells #[.int .i64 12, .int .i64 n, .string t, .slice pw z cw] 53)).alloc (.cells #[.int .i64 12, .int .i64 n, .string t, .slice pw z cw] 53)).drew.heap.size := by simp
        have y1 := hb.block (w.heap.size + 1) hs2
        have HB2 := Lib.hid ((HB.out (.cells #[.int .i64 12, .int .i64 n, .string t, .slice pw z cw] 53)).drew.trans (hb.mono (HB.out (.cells #[.int .i64 12, .int .i64 n, .string t, .slice pw z cw] 53)).drew.size))
        have y2 := y1.trans hx1
        clear y1 hs2 hb
        obtain ⟨e0, e1, e2, e3⟩ : w1.cell? ⟨w.heap.size + 1, 0, none⟩ = some (.int .i64 12) ∧ w1.cell? ⟨w.heap.size + 1, 1, none⟩ = some (.int .i64 n) ∧ w1.cell? ⟨w.heap.size + 1, 2, none⟩ = some (.string t) ∧ w1.cell? ⟨w.heap.size + 1, 3, none⟩ = some (.slice pw z cw) := by
          refine ⟨?_, ?_, ?_, ?_⟩ <;> rw [cell_of_row _ _ _ _ _ _ y2] <;> rfl
        have g2 : w1.frozen? ⟨w.heap.size + 1, 2, none⟩ = false := frozen_of_row w1 _ _ _ _ y2
        have g3 : w1.frozen? ⟨w.heap.size + 1, 3, none⟩ = false := frozen_of_row w1 _ _ _ _ y2
        have HF := Lib.hid (show w.heap.size ≤ w.heap.size + 1 by omega)
        clear y2
        go_wp2_with fail
        go_ret
        exact ⟨rfl, HB2.out.setCell (p := ⟨w.heap.size + 1, _, none⟩) HF.out _⟩
      · have n1 := notEmpty (s := t) (by omega)
        rw [decide_eq_false ht]
        clear ht
        go_enter Tryz.func49, Tryz.ntmps49
        go_wp2_with fail
        go_region
        go_wp2_with fail
        refine (HQ.out).mono ?_
        rintro e w1 ⟨rfl, hb⟩
        have hs2 : w.heap.size + 1 < ((w.alloc (.cells #[.int .i64 12, .int .i64 n, .string t, .slice pw z cw] 53)).alloc (.cells #[.int .i64 12, .int .i64 n, .string t, .slice pw z cw] 53)).drew.heap.size := by simp
        have y1 := hb.block (w.heap.size + 1) hs2
        have HB2 := Lib.hid ((HB.out (.cells #[.int .i64 12, .int .i64 n, .string t, .slice pw z cw] 53)).drew.trans (hb.mono (HB.out (.cells #[.int .i64 12, .int .i64 n, .string t, .slice pw z cw] 53)).drew.size))
        have y2 := y1.trans hx1
        clear y1 hs2 hb
        obtain ⟨e0, e1, e2, e3⟩ : w1.cell? ⟨w.heap.size + 1, 0, none⟩ = some (.int .i64 12) ∧ w1.cell? ⟨w.heap.size + 1, 1, none⟩ = some (.int .i64 n) ∧ w1.cell? ⟨w.heap.size + 1, 2, none⟩ = some (.string t) ∧ w1.cell? ⟨w.heap.size + 1, 3, none⟩ = some (.slice pw z cw) := by
          refine ⟨?_, ?_, ?_, ?_⟩ <;> rw [cell_of_row _ _ _ _ _ _ y2] <;> rfl
        have g2 : w1.frozen? ⟨w.heap.size + 1, 2, none⟩ = false := frozen_of_row w1 _ _ _ _ y2
        have g3 : w1.frozen? ⟨w.heap.size + 1, 3, none⟩ = false := frozen_of_row w1 _ _ _ _ y2
        have HF := Lib.hid (show w.heap.size ≤ w.heap.size + 1 by omega)
        clear y2
        go_wp2_with fail
        go_ret
        exact ⟨rfl, HB2.out.setCell (p := ⟨w.heap.size + 1, _, none⟩) HF.out _⟩
    · have h3 : (n == 0) = false := by simpa using hn
      rw [decide_eq_false hn]
      clear hn
      rw [show (false && decide (t.size = 0)) = false from rfl]
      go_enter Tryz.func49, Tryz.ntmps49
      go_wp2_with fail
      go_region
      go_wp2_with fail
      refine (HQ.out).mono ?_
      rintro e w1 ⟨rfl, hb⟩
      have hs2 : w.heap.size + 1 < ((w.alloc (.cells #[.int .i64 12, .int .i64 n, .string t, .slice pw z cw] 53)).alloc (.cells #[.int .i64 12, .int .i64 n, .string t, .slice pw z cw] 53)).drew.heap.size := by simp
      have y1 := hb.block (w.heap.size + 1) hs2
      have HB2 := Lib.hid ((HB.out (.cells #[.int .i64 12, .int .i64 n, .string t, .slice pw z cw] 53)).drew.trans (hb.mono (HB.out (.cells #[.int .i64 12, .int .i64 n, .string t, .slice pw z cw] 53)).drew.size))
      have y2 := y1.trans hx1
      clear y1 hs2 hb
      obtain ⟨e0, e1, e2, e3⟩ : w1.cell? ⟨w.heap.size + 1, 0, none⟩ = some (.int .i64 12) ∧ w1.cell? ⟨w.heap.size + 1, 1, none⟩ = some (.int .i64 n) ∧ w1.cell? ⟨w.heap.size + 1, 2, none⟩ = some (.string t) ∧ w1.cell? ⟨w.heap.size + 1, 3, none⟩ = some (.slice pw z cw) := by
        refine ⟨?_, ?_, ?_, ?_⟩ <;> rw [cell_of_row _ _ _ _ _ _ y2] <;> rfl
      have g2 : w1.frozen? ⟨w.heap.size + 1, 2, none⟩ = false := frozen_of_row w1 _ _ _ _ y2
      have g3 : w1.frozen? ⟨w.heap.size + 1, 3, none⟩ = false := frozen_of_row w1 _ _ _ _ y2
      have HF := Lib.hid (show w.heap.size ≤ w.heap.size + 1 by omega)
      clear y2
      go_wp2_with fail
      go_ret
      exact ⟨rfl, HB2.out.setCell (p := ⟨w.heap.size + 1, _, none⟩) HF.out _⟩

theorem fits_pro {P : Nat → Prop} (x : Opr) (st tp : Int) (wv : Value) (w : World) (hw : RdZ P w wv x.w) (hs : x.t.size ≤ 16777216) (hT : Tabs w) : Calls Tryz.prog 49 #[.agg #[.int .i64 x.k, .int .i64 x.n, .string x.t, wv], .int .i64 st, .int .i64 tp] w (SaysL (.bool (fitB x st tp)) w) := by
  obtain ⟨k, n, t, ws⟩ := x
  dsimp only at hw hs ⊢
  unfold fitB
  dsimp only
  by_cases h1 : k = 1
  · subst h1; rw [if_pos rfl]; exact fit_text P st tp n t ws wv w hw hs hT
  by_cases h2 : k = 2
  · subst h2; rw [if_neg (by decide), if_pos rfl]; exact fit_n2 P st tp n t ws wv w hw
  by_cases h3 : k = 3
  · subst h3; rw [if_neg (by decide), if_neg (by decide), if_pos (by decide)]; exact fit_n3 P st tp n t ws wv w hw
  by_cases h4 : k = 4
  · subst h4; rw [if_neg (by decide), if_neg (by decide), if_pos (by decide)]; exact fit_n4 P st tp n t ws wv w hw
  by_cases h8 : k = 8
  · subst h8; rw [if_neg (by decide), if_neg (by decide), if_neg (by decide), if_pos rfl]; exact fit_n8 P st tp n t ws wv w hw
  by_cases h10 : k = 10
  · subst h10; rw [if_neg (by decide), if_neg (by decide), if_neg (by decide), if_neg (by decide), if_pos rfl]; exact fit_n10 P st tp n t ws wv w hw
  by_cases h12 : k = 12
  · subst h12; rw [if_neg (by decide), if_neg (by decide), if_neg (by decide), if_neg (by decide), if_neg (by decide), if_pos rfl]; exact fit_table P st tp n t ws wv w hw
  rw [if_neg h1, if_neg h2, if_neg (by rintro (h | h); exact h3 h; exact h4 h), if_neg h8, if_neg h10, if_neg h12]
  exact fit_other P st tp k n t ws wv w ⟨h1, h2, h3, h4, h8, h10, h12⟩ hw
end Go.Proofs.YtjohhahfpgfjdaaGreatDoor.Ir
end
