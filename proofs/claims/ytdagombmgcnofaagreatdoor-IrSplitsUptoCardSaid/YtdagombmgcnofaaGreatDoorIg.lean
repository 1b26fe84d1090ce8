/- Layer 11: whether an operation by itself may be; how many bytes the texts have: plain, and the program's. -/
import Derived.Test.YtdagombmgcnofaaGreatDoorIc
import Derived.Test.YtdagombmgcnofaaGreatDoorTB
namespace Go.Proofs.YtdagombmgcnofaaGreatDoor.Ir
open Go.RowKit Go.Maps Go.Proofs.YtdagombmgcnofaaGreatDoor
set_option linter.unusedVariables false
def plainB (t : ByteArray) : Bool := ((chars t).find? unplain).isNone
def widB (l : List Int) : Bool := decide (1 ≤ (l.length : Int) ∧ (l.length : Int) < 9) && !(l.any fun z => !decide (0 ≤ z ∧ z < 101))
/-- Whether an operation by itself may be. -/
def fitB (x : Opr) (st tp : Int) : Bool :=
  if x.k = 1 then plainB x.t && !decide (x.t.size = 0) && decide (x.n = 0) && decide (x.w.length = 0)
  else if x.k = 2 then decide (0 ≤ x.n ∧ x.n < st) && decide (x.t.size = 0) && decide (x.w.length = 0)
  else if x.k = 3 ∨ x.k = 4 then decide (0 ≤ x.n ∧ x.n < tp) && decide (x.t.size = 0) && decide (x.w.length = 0)
  else if x.k = 8 then decide (-1 ≤ x.n ∧ x.n < st) && decide (x.t.size = 0) && decide (x.w.length = 0)
  else if x.k = 10 then decide (0 ≤ x.n ∧ x.n < 2) && decide (x.t.size = 0) && decide (x.w.length = 0)
  else if x.k = 12 then widB x.w && decide (x.n = 0) && decide (x.t.size = 0)
  else decide (x.n = 0) && decide (x.t.size = 0) && decide (x.w.length = 0)
def sumT : List Opr → Nat
  | [] => 0
  | x :: l => x.t.size + sumT l
theorem sumT_app (a b : List Opr) : sumT (a ++ b) = sumT a + sumT b := by
  induction a with
  | nil => simp [sumT]
  | cons x a ih => simp only [List.cons_append, sumT, ih]; omega
theorem sumT_take {l : List Opr} {k : Nat} (h : k < l.length) : sumT (l.take (k + 1)) = sumT (l.take k) + l[k].t.size := by
  rw [List.take_succ_eq_append_getElem h, sumT_app]
  rfl
theorem sumT_le (l : List Opr) (k : Nat) : sumT (l.take k) ≤ sumT l := by
  have h : sumT l = sumT (l.take k) + sumT (l.drop k) := by rw [← sumT_app, List.take_append_drop]
  omega
theorem sumT_mem {l : List Opr} {x : Opr} (h : x ∈ l) : x.t.size ≤ sumT l := by
  induction l with
  | nil => cases h
  | cons y l ih =>
    simp only [sumT]
    rcases List.mem_cons.1 h with rfl | h
    · omega
    · have := ih h; omega
def sizeOk (l : List Opr) : Prop := sumT l ≤ 4611686018427387904
theorem sliceN {P : Nat → Prop} {w : World} {v : Value} {l : List Opr} (h : RdO P w v l) : ∃ (pa : Option Addr) (cap : Nat), v = .slice pa l.length cap ∧ l.length ≤ cap ∧ cap ≤ 9223372036854775807 := by
  obtain ⟨pa, cap, e, h1, h2⟩ := h.form
  exact ⟨pa, cap, e, h1, by unfold maxLen at h2; omega⟩
set_option maxRecDepth 100000 in
set_option maxHeartbeats 1000000 in
theorem bytes_pro {P : Nat → Prop} (l : List Opr) (v : Value) (w : World) (h : RdO P w v l) (hz : sizeOk l) : Calls Tryz.prog 61 #[v] w (SaysL (.int .i64 (sumT l : Nat)) w) := by
  obtain ⟨pa, cap, rfl, hc1, hc2⟩ := sliceN h
  have HH := Lib.hid h
  have HZ := Lib.hid hz
  obtain ⟨n, hn⟩ : ∃ n, l.length = n := ⟨_, rfl⟩
  have HN := Lib.hid hn
  rw [hn] at HH hc1 ⊢
  have hn62 : n ≤ 9223372036854775807 := by omega
  clear h hz hn hc1
  go_enter Tryz.func61, Tryz.ntmps61
  go_wp2_with fail
  go_loopw [3, 8] (fun s3 i wr => ∃ k : Nat, i = .int .i64 k ∧ s3 = .int .i64 (sumT (l.take k) : Nat) ∧ k ≤ n ∧ Hid (Below w.heap.size w wr)) (fun _ i _ => n - (intOf i).toNat)
  case atStart => exact ⟨0, rfl, by simp [sumT], Nat.zero_le _, Lib.hid (Below.refl _ _)⟩
  case round =>
    obtain ⟨k, rfl, rfl, hk, HB⟩ := hrel
    by_cases hlt : k < n
    · have hkl : k < l.length := by rw [HN.out]; exact hlt
      obtain ⟨b, off, rfl, c0, c1, c2, wv, c3, h4⟩ := (HH.out.below HB.out).at_ hkl
      have hs := sumT_take hkl
      have hle := Nat.le_trans (sumT_le l (k + 1)) HZ.out
      obtain ⟨x, hx⟩ : ∃ x, l[k] = x := ⟨_, rfl⟩
      obtain ⟨p4, q4, rfl, _, _⟩ := h4.form
      rw [hx] at c0 c1 c2 c3 hs
      obtain ⟨z4, hz4⟩ : ∃ z4, x.w.length = z4 := ⟨_, rfl⟩
      rw [hz4] at c3
      obtain ⟨q, hq⟩ : ∃ q, sumT (l.take k) = q := ⟨_, rfl⟩
      rw [hq] at hs ⊢
      rw [hs] at hle
      have HS := Lib.hid hs
      have k1 : (k : Int) < n := by omega
      have w1 : wrap64 ((q : Int) + (x.t.size : Nat)) = ((q + x.t.size : Nat) : Int) := by unfold wrap64; omega
      have HB2 := Lib.hid (HB.out.alloc HB.out.size (.cells #[.int .i64 x.k, .int .i64 x.n, .string x.t, .slice p4 z4 q4] 81))
      clear hs hle hx hq h4 hz4
      go_wp2_with fail
      go_roundw
      case measure => simp [intOf]; omega
      case rel => exact ⟨k + 1, by go_num, by rw [HS.out, w1], by omega, HB2⟩
    · obtain rfl : k = n := by omega
      have hz1 : ¬ (k : Int) < k := by omega
      have HE := Lib.hid (show sumT (l.take k) = sumT l by rw [← HN.out, List.take_length])
      clear hlt
      go_wp2_with fail
      go_ret
      exact ⟨by first | (rw [HE.out]; done) | (rw [HE.out]; rfl), HB.out⟩
/-- The number of the first of which p holds, or -1. -/
def zAt (p : Int → Bool) : List Int → Nat → Int
  | [], _ => -1
  | z :: l, i => if p z then (i : Int) else zAt p l (i + 1)
theorem zAt_step {p : Int → Bool} {l : List Int} {i : Nat} (h : i < l.length) : zAt p (l.drop i) i = if p l[i] then (i : Int) else zAt p (l.drop (i + 1)) (i + 1) := by
  rw [List.drop_eq_getElem_cons h]
  rfl
theorem zAt_any (p : Int → Bool) : ∀ (l : List Int) (i : Nat), decide (0 ≤ zAt p l i) = l.any p
  | [], i => rfl
  | z :: l, i => by
    unfold zAt
    cases h : p z with
    | true => simp [h]
    | false => simp [h]; exact zAt_any p l (i + 1)

set_option maxRecDepth 100000 in
set_option maxHeartbeats 1000000 in
theorem index_wide {P : Nat → Prop} (p : Int → Bool) (l : List Int) (v : Value) (w : World) (h : RdZ P w v l) (hf : ∀ (z : Int) (W : World), Below w.heap.size w W → Calls Tryz.prog 164 #[.int .i64 z] W (SaysL (.bool (p z)) W)) :
    Calls Tryz.prog 169 #[v, .func (.func 164) #[] #[]] w (SaysL (.int .i64 (zAt p l 0)) w) := by
  obtain ⟨pa, cap, rfl, hc, hm⟩ := h.form
  have HH := Lib.hid h
  have HF := Lib.hid hf
  obtain ⟨n, hn⟩ : ∃ n, l.length = n := ⟨_, rfl⟩
  have HN := Lib.hid hn
  rw [hn] at HH hc ⊢
  have hn62 : n ≤ 9223372036854775807 := by unfold maxLen at hm; omega
  clear h hn hf hm hc
  go_enter Tryz.func169, Tryz.ntmps169
  go_wp2_with fail
  go_loopw [8] (fun i wr => ∃ k : Nat, i = .int .i64 k ∧ k ≤ n ∧ Hid (zAt p (l.drop k) k = zAt p l 0) ∧ Hid (Below w.heap.size w wr)) (fun i _ => n - (intOf i).toNat)
  case atStart => exact ⟨0, rfl, Nat.zero_le _, Lib.hid rfl, Lib.hid (Below.refl _ _)⟩
  case round =>
    obtain ⟨k, rfl, hk, HE, HB⟩ := hrel
    by_cases hlt : k < n
    · have hkl : k < l.length := by rw [HN.out]; exact hlt
      obtain ⟨b, off, rfl, c0⟩ := (HH.out.below HB.out).cell hkl
      have hs := zAt_step (p := p) hkl
      obtain ⟨x, hx⟩ : ∃ x, l[k] = x := ⟨_, rfl⟩
      rw [hx] at c0 hs
      have HC := Lib.hid (HF.out x wr HB.out)
      obtain ⟨q, hq⟩ : ∃ q, p x = q := ⟨_, rfl⟩
      rw [hq] at HC hs
      have k1 : (k : Int) < n := by omega
      clear hx hq
      cases q with
      | true =>
        rw [if_pos rfl] at hs
        have HZ := Lib.hid (HE.out.symm.trans hs)
        clear hs
        go_wp2_with fail
        refine HC.out.mono ?_
        rintro e w1 ⟨rfl, hb⟩
        have HB1 := Lib.hid (HB.out.trans (hb.mono HB.out.size))
        clear hb
        go_wp2_with fail
        go_ret
        rw [HZ.out]
        exact ⟨rfl, HB1.out⟩
      | false =>
        rw [if_neg (by decide)] at hs
        have HZ := Lib.hid (hs.symm.trans HE.out)
        clear hs
        go_wp2_with fail
        refine HC.out.mono ?_
        rintro e w1 ⟨rfl, hb⟩
        have HB1 := Lib.hid (HB.out.trans (hb.mono HB.out.size))
        clear hb
        go_wp2_with fail
        go_roundw
        case measure => simp [intOf]; omega
        case rel => exact ⟨k + 1, by go_num, by omega, HZ, HB1⟩
    · have hz : zAt p l 0 = -1 := by rw [← HE.out, List.drop_eq_nil_of_le (by rw [HN.out]; omega)]; rfl
      have HZ := Lib.hid hz
      have k1 : ¬ (k : Int) < n := by omega
      clear hz
      go_wp2_with fail
      go_ret
      rw [HZ.out]
      exact ⟨rfl, HB.out⟩
set_option maxRecDepth 100000 in
theorem any_wide {P : Nat → Prop} (p : Int → Bool) (l : List Int) (v : Value) (w : World) (h : RdZ P w v l) (hf : ∀ (z : Int) (W : World), Below w.heap.size w W → Calls Tryz.prog 164 #[.int .i64 z] W (SaysL (.bool (p z)) W)) :
    Calls Tryz.prog 126 #[v, .func (.func 164) #[] #[]] w (SaysL (.bool (l.any p)) w) := by
  have HI := Lib.hid (index_wide p l v w h hf)
  rw [← zAt_any p l 0]
  obtain ⟨i, hi⟩ : ∃ i, zAt p l 0 = i := ⟨_, rfl⟩
  rw [hi] at HI ⊢
  obtain ⟨pa, cap, rfl, _, _⟩ := h.form
  obtain ⟨n, hn⟩ : ∃ n, l.length = n := ⟨_, rfl⟩
  rw [hn] at HI ⊢
  clear h hi hn hf
  by_cases h0 : 0 ≤ i
  · rw [decide_eq_true h0]
    go_enter Tryz.func126, Tryz.ntmps126
    go_wp2_with fail
    refine HI.out.mono ?_
    rintro e w1 ⟨rfl, hb⟩
    have HB := Lib.hid hb
    clear hb
    go_wp2_with fail
    go_ret
    exact ⟨rfl, HB.out⟩
  · have h1 := decide_eq_false h0
    rw [h1]
    go_enter Tryz.func126, Tryz.ntmps126
    go_wp2_with fail
    refine HI.out.mono ?_
    rintro e w1 ⟨rfl, hb⟩
    have HB := Lib.hid hb
    clear hb
    go_wp2_with fail
    go_ret
    exact ⟨rfl, HB.out⟩

set_option maxRecDepth 100000 in
set_option maxHeartbeats 1000000 in
theorem index_below {P : Nat → Prop} (p : Int → Bool) (a : Addr) (l : List Int) (v : Value) (w : World) (h : RdZ P w v l) (hf : ∀ (z : Int) (W : World), Below w.heap.size w W → Calls Tryz.prog 127 #[.int .i64 z, .pointer (some a)] W (SaysL (.bool (p z)) W)) :
    Calls Tryz.prog 169 #[v, .func (.func 127) #[] #[.pointer (some a)]] w (SaysL (.int .i64 (zAt p l 0)) w) := by
  obtain ⟨pa, cap, rfl, hc, hm⟩ := h.form
  have HH := Lib.hid h
  have HF := Lib.hid hf
  obtain ⟨n, hn⟩ : ∃ n, l.length = n := ⟨_, rfl⟩
  have HN := Lib.hid hn
  rw [hn] at HH hc ⊢
  have hn62 : n ≤ 9223372036854775807 := by unfold maxLen at hm; omega
  clear h hn hf hm hc
  go_enter Tryz.func169, Tryz.ntmps169
  go_wp2_with fail
  go_loopw [8] (fun i wr => ∃ k : Nat, i = .int .i64 k ∧ k ≤ n ∧ Hid (zAt p (l.drop k) k = zAt p l 0) ∧ Hid (Below w.heap.size w wr)) (fun i _ => n - (intOf i).toNat)
  case atStart => exact ⟨0, rfl, Nat.zero_le _, Lib.hid rfl, Lib.hid (Below.refl _ _)⟩
  case round =>
    obtain ⟨k, rfl, hk, HE, HB⟩ := hrel
    by_cases hlt : k < n
    · have hkl : k < l.length := by rw [HN.out]; exact hlt
      obtain ⟨b, off, rfl, c0⟩ := (HH.out.below HB.out).cell hkl
      have hs := zAt_step (p := p) hkl
      obtain ⟨x, hx⟩ : ∃ x, l[k] = x := ⟨_, rfl⟩
      rw [hx] at c0 hs
      have HC := Lib.hid (HF.out x wr HB.out)
      obtain ⟨q, hq⟩ : ∃ q, p x = q := ⟨_, rfl⟩
      rw [hq] at HC hs
      have k1 : (k : Int) < n := by omega
      clear hx hq
      cases q with
      | true =>
        rw [if_pos rfl] at hs
        have HZ := Lib.hid (HE.out.symm.trans hs)
        clear hs
        go_wp2_with fail
        refine HC.out.mono ?_
        rintro e w1 ⟨rfl, hb⟩
        have HB1 := Lib.hid (HB.out.trans (hb.mono HB.out.size))
        clear hb
        go_wp2_with fail
        go_ret
        rw [HZ.out]
        exact ⟨rfl, HB1.out⟩
      | false =>
        rw [if_neg (by decide)] at hs
        have HZ := Lib.hid (hs.symm.trans HE.out)
        clear hs
        go_wp2_with fail
        refine HC.out.mono ?_
        rintro e w1 ⟨rfl, hb⟩
        have HB1 := Lib.hid (HB.out.trans (hb.mono HB.out.size))
        clear hb
        go_wp2_with fail
        go_roundw
        case measure => simp [intOf]; omega
        case rel => exact ⟨k + 1, by go_num, by omega, HZ, HB1⟩
    · have hz : zAt p l 0 = -1 := by rw [← HE.out, List.drop_eq_nil_of_le (by rw [HN.out]; omega)]; rfl
      have HZ := Lib.hid hz
      have k1 : ¬ (k : Int) < n := by omega
      clear hz
      go_wp2_with fail
      go_ret
      rw [HZ.out]
      exact ⟨rfl, HB.out⟩
set_option maxRecDepth 100000 in
theorem any_below {P : Nat → Prop} (p : Int → Bool) (a : Addr) (l : List Int) (v : Value) (w : World) (h : RdZ P w v l) (hf : ∀ (z : Int) (W : World), Below w.heap.size w W → Calls Tryz.prog 127 #[.int .i64 z, .pointer (some a)] W (SaysL (.bool (p z)) W)) :
    Calls Tryz.prog 126 #[v, .func (.func 127) #[] #[.pointer (some a)]] w (SaysL (.bool (l.any p)) w) := by
  have HI := Lib.hid (index_below p a l v w h hf)
  rw [← zAt_any p l 0]
  obtain ⟨i, hi⟩ : ∃ i, zAt p l 0 = i := ⟨_, rfl⟩
  rw [hi] at HI ⊢
  obtain ⟨pa, cap, rfl, _, _⟩ := h.form
  obtain ⟨n, hn⟩ : ∃ n, l.length = n := ⟨_, rfl⟩
  rw [hn] at HI ⊢
  clear h hi hn hf
  by_cases h0 : 0 ≤ i
  · rw [decide_eq_true h0]
    go_enter Tryz.func126, Tryz.ntmps126
    go_wp2_with fail
    refine HI.out.mono ?_
    rintro e w1 ⟨rfl, hb⟩
    have HB := Lib.hid hb
    clear hb
    go_wp2_with fail
    go_ret
    exact ⟨rfl, HB.out⟩
  · have h1 := decide_eq_false h0
    rw [h1]
    go_enter Tryz.func126, Tryz.ntmps126
    go_wp2_with fail
    refine HI.out.mono ?_
    rintro e w1 ⟨rfl, hb⟩
    have HB := Lib.hid hb
    clear hb
    go_wp2_with fail
    go_ret
    exact ⟨rfl, HB.out⟩

set_option maxRecDepth 100000 in
theorem wide1_pro (z : Int) (W : World) : Calls Tryz.prog 164 #[.int .i64 z] W (SaysL (.bool (!decide (0 ≤ z ∧ z < 101))) W) := by
  have HW := Lib.hid (within_pro z 0 101 W)
  obtain ⟨q, hq⟩ : ∃ q, decide (0 ≤ z ∧ z < 101) = q := ⟨_, rfl⟩
  rw [hq] at HW ⊢
  clear hq
  go_enter Tryz.func164, Tryz.ntmps164
  go_wp2_with fail
  refine HW.out.mono ?_
  rintro e w1 ⟨rfl, rfl⟩
  go_wp2_with fail
  go_ret
  exact ⟨rfl, Below.refl _ _⟩
set_option maxRecDepth 100000 in
set_option maxHeartbeats 1000000 in
theorem widths_pro {P : Nat → Prop} (l : List Int) (v : Value) (w : World) (h : RdZ P w v l) : Calls Tryz.prog 113 #[v] w (SaysL (.bool (widB l)) w) := by
  have HA := Lib.hid (any_wide (fun z => !decide (0 ≤ z ∧ z < 101)) l v w h (fun z W _ => wide1_pro z W))
  obtain ⟨pa, cap, rfl, _, _⟩ := h.form
  unfold widB
  obtain ⟨u, hu⟩ : ∃ u, (l.any fun z => !decide (0 ≤ z ∧ z < 101)) = u := ⟨_, rfl⟩
  rw [hu] at HA ⊢
  obtain ⟨n, hn⟩ : ∃ n, l.length = n := ⟨_, rfl⟩
  rw [hn] at HA ⊢
  have HW := Lib.hid (within_pro n 1 9 w)
  obtain ⟨q, hq⟩ : ∃ q, decide (1 ≤ (n : Int) ∧ (n : Int) < 9) = q := ⟨_, rfl⟩
  rw [hq] at HW ⊢
  clear h hu hn hq
  cases q with
  | false =>
    go_enter Tryz.func113, Tryz.ntmps113
    go_wp2_with fail
    refine HW.out.mono ?_
    rintro e w1 ⟨rfl, rfl⟩
    go_wp2_with fail
    go_ret
    exact ⟨rfl, Below.refl _ _⟩
  | true =>
    go_enter Tryz.func113, Tryz.ntmps113
    go_wp2_with fail
    refine HW.out.mono ?_
    rintro e w1 ⟨rfl, rfl⟩
    go_wp2_with fail
    refine HA.out.mono ?_
    rintro e w2 ⟨rfl, hb⟩
    have HB := Lib.hid hb
    clear hb
    go_wp2_with fail
    go_ret
    exact ⟨rfl, HB.out⟩
set_option maxRecDepth 100000 in
set_option maxHeartbeats 1000000 in
theorem isText_pro (t : ByteArray) (w : World) (hs : t.size ≤ 16777216) (hT : Tabs w) : Calls Tryz.prog 111 #[.string t] w (SaysL (.bool (plainB t && !decide (t.size = 0))) w) := by
  have HP := Lib.hid (plain_pro t w hs hT)
  obtain ⟨q, hq⟩ : ∃ q, plainB t = q := ⟨_, rfl⟩
  have HQ := Lib.hid (show ((chars t).find? unplain).isNone = q from hq)
  rw [hq]
  clear hq hs hT
  cases q with
  | false =>
    go_enter Tryz.func111, Tryz.ntmps111
    go_wp2_with fail
    refine HP.out.mono ?_
    rintro e w1 ⟨he, hb⟩
    rw [HQ.out] at he
    subst he
    have HB := Lib.hid hb
    clear hb
    go_wp2_with fail
    go_ret
    exact ⟨rfl, HB.out⟩
  | true =>
    by_cases h0 : t.size = 0
    · rw [decide_eq_true h0]
      have n1 : t.toList = [] := by rw [ByteArray.toList_eq]; exact List.eq_nil_of_length_eq_zero (by rw [list_len]; exact h0)
      clear h0
      go_enter Tryz.func111, Tryz.ntmps111
      go_wp2_with fail
      refine HP.out.mono ?_
      rintro e w1 ⟨he, hb⟩
      rw [HQ.out] at he
      subst he
      have HB := Lib.hid hb
      clear hb
      go_wp2_with fail
      go_ret
      exact ⟨rfl, HB.out⟩
    · rw [decide_eq_false h0]
      have n1 := notEmpty (s := t) (by omega)
      clear h0
      go_enter Tryz.func111, Tryz.ntmps111
      go_wp2_with fail
      refine HP.out.mono ?_
      rintro e w1 ⟨he, hb⟩
      rw [HQ.out] at he
      subst he
      have HB := Lib.hid hb
      clear hb
      go_wp2_with fail
      go_ret
      exact ⟨rfl, HB.out⟩
end Go.Proofs.YtdagombmgcnofaaGreatDoor.Ir
