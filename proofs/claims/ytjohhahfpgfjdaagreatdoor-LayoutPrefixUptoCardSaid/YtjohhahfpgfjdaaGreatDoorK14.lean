/- The texts that the laws of layout stand on, part 14. -/
import Derived.Test.YtjohhahfpgfjdaaGreatDoorK12
import Derived.Test.YtjohhahfpgfjdaaGreatDoorK13
import Derived.Deep.RegionHeld3
import Derived.Deep.RegionHeld2
section
namespace Go.Proofs.YtjohhahfpgfjdaaGreatDoor.Ir
open Go.RowKit Go.Maps Go.Proofs.YtjohhahfpgfjdaaGreatDoor
set_option linter.unusedVariables false
def plainB (t : ByteArray) : Bool := ((chars t).find? unplain).isNone
def widB (l : List Int) : Bool := decide (1 ≤ (l.length : Int) ∧ (l.length : Int) < 9) && !(l.any fun z => !decide (0 ≤ z ∧ z < 101))
/-- Whether an operation by itself may be. -/
def fitB (x : Opr) (st tp : Int) : Bool :=
  if x.k = 1 then plainB x.t && !decide (x.t.size = 0) && decide (x.n = 0) && decide (x.w.length = 0)
  else if x.k = 2 then decide (0 ≤ x.n ∧ x.n < st) && decide (x.t.size = 0) && decide (x.w.length = 0)
  else if x.k = 3 ∨ x.k = 4 then decide (0 ≤ x.n ∧ x.n < tp) && decide (x.t.size = 0) && decide (x.w.length = 0)
  else if x.k = 8 then decide (-1 ≤ x.n ∧ x.n < st) && decide (x.t.size = 0) && decide (x.w.length = 0)
  else if x.k = 10 then decide (0 ≤ x.n ∧ x.n < 2) && decide (x.t.size = 0) && decide (x.w.length = 0)
  else if x.k = 12 then widB x.w && decide (x.n = 0) && decide (x.t.size = 0)
  else decide (x.n = 0) && decide (x.t.size = 0) && decide (x.w.length = 0)
def sumT : List Opr → Nat
  | [] => 0
  | x :: l => x.t.size + sumT l
theorem sumT_app (a b : List Opr) : sumT (a ++ b) = sumT a + sumT b := by
  induction a with
  | nil => simp [sumT]
  | cons x a ih => simp only [List.cons_append, sumT, ih]; omega
theorem sumT_take {l : List Opr} {k : Nat} (h : k < l.length) : sumT (l.take (k + 1)) = sumT (l.take k) + l[k].t.size := by
  rw [List.take_succ_eq_append_getElem h, sumT_app]
  rfl
theorem sumT_le (l : List Opr) (k : Nat) : sumT (l.take k) ≤ sumT l := by
  have h : sumT l = sumT (l.take k) + sumT (l.drop k) := by rw [← sumT_app, List.take_append_drop]
  omega
theorem sumT_mem {l : List Opr} {x : Opr} (h : x ∈ l) : x.t.size ≤ sumT l := by
  induction l with
  | nil => cases h
  | cons y l ih =>
    simp only [sumT]
    rcases List.mem_cons.1 h with rfl | h
    · omega
    · have := ih h; omega
def sizeOk (l : List Opr) : Prop := sumT l ≤ 4611686018427387904
theorem sliceN {P : Nat → Prop} {w : World} {v : Value} {l : List Opr} (h : RdO P w v l) : ∃ (pa : Option Addr) (cap : Nat), v = .slice pa l.length cap ∧ l.length ≤ cap ∧ cap ≤ 9223372036854775807 := by
  obtain ⟨pa, cap, e, h1, h2⟩ := h.form
  exact ⟨pa, cap, e, h1, by unfold maxLen at h2; omega⟩
set_option maxRecDepth 100000 in
set_option maxHeartbeats 1000000 in
theorem bytes_pro {P : Nat → Prop} (l : List Opr) (v : Value) (w : World) (h : RdO P w v l) (hz : sizeOk l) : Calls Tryz.prog 48 #[v] w (SaysL (.int .i64 (sumT l : Nat)) w) := by
  obtain ⟨pa, cap, rfl, hc1, hc2⟩ := sliceN h
  have HH := Lib.hid h
  have HZ := Lib.hid hz
  obtain ⟨n, hn⟩ : ∃ n, l.length = n := ⟨_, rfl⟩
  have HN := Lib.hid hn
  rw [hn] at HH hc1 ⊢
  have hn62 : n ≤ 9223372036854775807 := by omega
  clear h hz hn hc1
  go_enter Tryz.func48, Tryz.ntmps48
  go_wp2_with fail
  go_loopw [3, 8] (fun s3 i wr => ∃ k : Nat, i = .int .i64 k ∧ s3 = .int .i64 (sumT (l.take k) : Nat) ∧ k ≤ n ∧ Hid (Below w.heap.size w wr)) (fun _ i _ => n - (intOf i).toNat)
  case atStart => exact ⟨0, rfl, by simp [sumT], Nat.zero_le _, Lib.hid (Below.refl _ _)⟩
  case round =>
    obtain ⟨k, rfl, rfl, hk, HB⟩ := hrel
    by_cases hlt : k < n
    · have hkl : k < l.length := by rw [HN.out]; exact hlt
      obtain ⟨b, off, rfl, c0, c1, c2, wv, c3, h4⟩ := (HH.out.below HB.out).at_ hkl
      have hs := sumT_take hkl
      have hle := Nat.le_trans (sumT_le l (k + 1)) HZ.out
      obtain ⟨x, hx⟩ : ∃ x, l[k] = x := ⟨_, rfl⟩
      obtain ⟨p4, q4, rfl, _, _⟩ := h4.form
      rw [hx] at c0 c1 c2 c3 hs
      obtain ⟨z4, hz4⟩ : ∃ z4, x.w.length = z4 := ⟨_, rfl⟩
      rw [hz4] at c3
      obtain ⟨q, hq⟩ : ∃ q, sumT (l.take k) = q := ⟨_, rfl⟩
      rw [hq] at hs ⊢
      rw [hs] at hle
      have HS := Lib.hid hs
      have k1 : (k : Int) < n := by omega
      have w1 : wrap64 ((q : Int) + (x.t.size : Nat)) = ((q + x.t.size : Nat) : Int) := by unfold wrap64; omega
      have HB2 := Lib.hid (HB.out.alloc HB.out.size (.cells #[.int .i64 x.k, .int .i64 x.n, .string x.t, .slice p4 z4 q4] 53))
      clear hs hle hx hq h4 hz4
      go_wp2_with fail
      go_roundw
      case measure => simp [intOf]; omega
      case rel => exact ⟨k + 1, by go_num, by rw [HS.out, w1], by omega, HB2⟩
    · obtain rfl : k = n := by omega
      have hz1 : ¬ (k : Int) < k := by omega
      have HE := Lib.hid (show sumT (l.take k) = sumT l by rw [← HN.out, List.take_length])
      clear hlt
      go_wp2_with fail
      go_ret
      exact ⟨by first | (rw [HE.out]; done) | (rw [HE.out]; rfl), HB.out⟩
/-- The number of the first of which p holds, or -1. -/
def zAt (p : Int → Bool) : List Int → Nat → Int
  | [], _ => -1
  | z :: l, i => if p z then (i : Int) else zAt p l (i + 1)
theorem zAt_step {p : Int → Bool} {l : List Int} {i : Nat} (h : i < l.length) : zAt p (l.drop i) i = if p l[i] then (i : Int) else zAt p (l.drop (i + 1)) (i + 1) := by
  rw [List.drop_eq_getElem_cons h]
  rfl
theorem zAt_any (p : Int → Bool) : ∀ (l : List Int) (i : Nat), decide (0 ≤ zAt p l i) = l.any p
  | [], i => rfl
  | z :: l, i => by
    unfold zAt
    cases h : p z with
    | true => simp [h]
    | false => simp [h]; exact zAt_any p l (i + 1)

set_option maxRecDepth 100000 in
set_option maxHeartbeats 1000000 in
theorem index_wide {P : Nat → Prop} (p : Int → Bool) (l : List Int) (v : Value) (w : World) (h : RdZ P w v l) (hf : ∀ (z : Int) (W : World), Below w.heap.size w W → Calls Tryz.prog 108 #[.int .i64 z] W (SaysL (.bool (p z)) W)) :
    Calls Tryz.prog 123 #[v, .func (.func 108) #[] #[]] w (SaysL (.int .i64 (zAt p l 0)) w) := by
  obtain ⟨pa, cap, rfl, hc, hm⟩ := h.form
  have HH := Lib.hid h
  have HF := Lib.hid hf
  obtain ⟨n, hn⟩ : ∃ n, l.length = n := ⟨_, rfl⟩
  have HN := Lib.hid hn
  rw [hn] at HH hc ⊢
  have hn62 : n ≤ 9223372036854775807 := by unfold maxLen at hm; omega
  clear h hn hf hm hc
  go_enter Tryz.func123, Tryz.ntmps123
  go_wp2_with fail
  go_loopw [8] (fun i wr => ∃ k : Nat, i = .int .i64 k ∧ k ≤ n ∧ Hid (zAt p (l.drop k) k = zAt p l 0) ∧ Hid (Below w.heap.size w wr)) (fun i _ => n - (intOf i).toNat)
  case atStart => exact ⟨0, rfl, Nat.zero_le _, Lib.hid rfl, Lib.hid (Below.refl _ _)⟩
  case round =>
    obtain ⟨k, rfl, hk, HE, HB⟩ := hrel
    by_cases hlt : k < n
    · have hkl : k < l.length := by rw [HN.out]; exact hlt
      obtain ⟨b, off, rfl, c0⟩ := (HH.out.below HB.out).cell hkl
      have hs := zAt_step (p := p) hkl
      obtain ⟨x, hx⟩ : ∃ x, l[k] = x := ⟨_, rfl⟩
      rw [hx] at c0 hs
      have HC := Lib.hid (HF.out x wr HB.out)
      obtain ⟨q, hq⟩ : ∃ q, p x = q := ⟨_, rfl⟩
      rw [hq] at HC hs
      have k1 : (k : Int) < n := by omega
      clear hx hq
      cases q with
      | true =>
        rw [if_pos rfl] at hs
        have HZ := Lib.hid (HE.out.symm.trans hs)
        clear hs
        go_wp2_with fail
        refine HC.out.mono ?_
        rintro e w1 ⟨rfl, hb⟩
        have HB1 := Lib.hid (HB.out.trans (hb.mono HB.out.size))
        clear hb
        go_wp2_with fail
        go_ret
        rw [HZ.out]
        exact ⟨rfl, HB1.out⟩
      | false =>
        rw [if_neg (by decide)] at hs
        have HZ := Lib.hid (hs.symm.trans HE.out)
        clear hs
        go_wp2_with fail
        refine HC.out.mono ?_
        rintro e w1 ⟨rfl, hb⟩
        have HB1 := Lib.hid (HB.out.trans (hb.mono HB.out.size))
        clear hb
        go_wp2_with fail
        go_roundw
        case measure => simp [intOf]; omega
        case rel => exact ⟨k + 1, by go_num, by omega, HZ, HB1⟩
    · have hz : zAt p l 0 = -1 := by rw [← HE.out, List.drop_eq_nil_of_le (by rw [HN.out]; omega)]; rfl
      have HZ := Lib.hid hz
      have k1 : ¬ (k : Int) < n := by omega
      clear hz
      go_wp2_with fail
      go_ret
      rw [HZ.out]
      exact ⟨rfl, HB.out⟩
set_option maxRecDepth 100000 in
theorem any_wide {P : Nat → Prop} (p : Int → Bool) (l : List Int) (v : Value) (w : World) (h : RdZ P w v l) (hf : ∀ (z : Int) (W : World), Below w.heap.size w W → Calls Tryz.prog 108 #[.int .i64 z] W (SaysL (.bool (p z)) W)) :
    Calls Tryz.prog 98 #[v, .func (.func 108) #[] #[]] w (SaysL (.bool (l.any p)) w) := by
  have HI := Lib.hid (index_wide p l v w h hf)
  rw [← zAt_any p l 0]
  obtain ⟨i, hi⟩ : ∃ i, zAt p l 0 = i := ⟨_, rfl⟩
  rw [hi] at HI ⊢
  obtain ⟨pa, cap, rfl, _, _⟩ := h.form
  obtain ⟨n, hn⟩ : ∃ n, l.length = n := ⟨_, rfl⟩
  rw [hn] at HI ⊢
  clear h hi hn hf
  by_cases h0 : 0 ≤ i
  · rw [decide_eq_true h0]
    go_enter Tryz.func98, Tryz.ntmps98
    go_wp2_with fail
    refine HI.out.mono ?_
    rintro e w1 ⟨rfl, hb⟩
    have HB := Lib.hid hb
    clear hb
    go_wp2_with fail
    go_ret
    exact ⟨rfl, HB.out⟩
  · have h1 := decide_eq_false h0
    rw [h1]
    go_enter Tryz.func98, Tryz.ntmps98
    go_wp2_with fail
    refine HI.out.mono ?_
    rintro e w1 ⟨rfl, hb⟩
    have HB := Lib.hid hb
    clear hb
    go_wp2_with fail
    go_ret
    exact ⟨rfl, HB.out⟩

set_option maxRecDepth 100000 in
theorem wide1_pro (z : Int) (W : World) : Calls Tryz.prog 108 #[.int .i64 z] W (SaysL (.bool (!decide (0 ≤ z ∧ z < 101))) W) := by
  have HW := Lib.hid (within_pro z 0 101 W)
  obtain ⟨q, hq⟩ : ∃ q, decide (0 ≤ z ∧ z < 101) = q := ⟨_, rfl⟩
  rw [hq] at HW ⊢
  clear hq
  go_enter Tryz.func108, Tryz.ntmps108
  go_wp2_with fail
  refine HW.out.mono ?_
  rintro e w1 ⟨rfl, rfl⟩
  go_wp2_with fail
  go_ret
  exact ⟨rfl, Below.refl _ _⟩
set_option maxRecDepth 100000 in
set_option maxHeartbeats 1000000 in
theorem widths_pro {P : Nat → Prop} (l : List Int) (v : Value) (w : World) (h : RdZ P w v l) : Calls Tryz.prog 78 #[v] w (SaysL (.bool (widB l)) w) := by
  have HA := Lib.hid (any_wide (fun z => !decide (0 ≤ z ∧ z < 101)) l v w h (fun z W _ => wide1_pro z W))
  obtain ⟨pa, cap, rfl, _, _⟩ := h.form
  unfold widB
  obtain ⟨u, hu⟩ : ∃ u, (l.any fun z => !decide (0 ≤ z ∧ z < 101)) = u := ⟨_, rfl⟩
  rw [hu] at HA ⊢
  obtain ⟨n, hn⟩ : ∃ n, l.length = n := ⟨_, rfl⟩
  rw [hn] at HA ⊢
  have HW := Lib.hid (within_pro n 1 9 w)
  obtain ⟨q, hq⟩ : ∃ q, decide (1 ≤ (n : Int) ∧ (n : Int) < 9) = q := ⟨_, rfl⟩
  rw [hq] at HW ⊢
  clear h hu hn hq
  cases q with
  | false =>
    go_enter Tryz.func78, Tryz.ntmps78
    go_wp2_with fail
    refine HW.out.mono ?_
    rintro e w1 ⟨rfl, rfl⟩
    go_wp2_with fail
    go_ret
    exact ⟨rfl, Below.refl _ _⟩
  | true =>
    go_enter Tryz.func78, Tryz.ntmps78
    go_wp2_with fail
    refine HW.out.mono ?_
    rintro e w1 ⟨rfl, rfl⟩
    go_wp2_with fail
    refine HA.out.mono ?_
    rintro e w2 ⟨rfl, hb⟩
    have HB := Lib.hid hb
    clear hb
    go_wp2_with fail
    go_ret
    exact ⟨rfl, HB.out⟩
set_option maxRecDepth 100000 in
set_option maxHeartbeats 1000000 in
theorem isText_pro (t : ByteArray) (w : World) (hs : t.size ≤ 16777216) (hT : Tabs w) : Calls Tryz.prog 76 #[.string t] w (SaysL (.bool (plainB t && !decide (t.size = 0))) w) := by
  have HP := Lib.hid (plain_pro t w hs hT)
  obtain ⟨q, hq⟩ : ∃ q, plainB t = q := ⟨_, rfl⟩
  have HQ := Lib.hid (show ((chars t).find? unplain).isNone = q from hq)
  rw [hq]
  clear hq hs hT
  cases q with
  | false =>
    go_enter Tryz.func76, Tryz.ntmps76
    go_wp2_with fail
    refine HP.out.mono ?_
    rintro e w1 ⟨he, hb⟩
    rw [HQ.out] at he
    subst he
    have HB := Lib.hid hb
    clear hb
    go_wp2_with fail
    go_ret
    exact ⟨rfl, HB.out⟩
  | true =>
    by_cases h0 : t.size = 0
    · rw [decide_eq_true h0]
      have n1 : t.toList = [] := by rw [ByteArray.toList_eq]; exact List.eq_nil_of_length_eq_zero (by rw [list_len]; exact h0)
      clear h0
      go_enter Tryz.func76, Tryz.ntmps76
      go_wp2_with fail
      refine HP.out.mono ?_
      rintro e w1 ⟨he, hb⟩
      rw [HQ.out] at he
      subst he
      have HB := Lib.hid hb
      clear hb
      go_wp2_with fail
      go_ret
      exact ⟨rfl, HB.out⟩
    · rw [decide_eq_false h0]
      have n1 := notEmpty (s := t) (by omega)
      clear h0
      go_enter Tryz.func76, Tryz.ntmps76
      go_wp2_with fail
      refine HP.out.mono ?_
      rintro e w1 ⟨he, hb⟩
      rw [HQ.out] at he
      subst he
      have HB := Lib.hid hb
      clear hb
      go_wp2_with fail
      go_ret
      exact ⟨rfl, HB.out⟩
end Go.Proofs.YtjohhahfpgfjdaaGreatDoor.Ir
end
section
namespace Go.Proofs.YtjohhahfpgfjdaaGreatDoor.Ir
open Go.RowKit Go.Maps Go.Proofs.YtjohhahfpgfjdaaGreatDoor
set_option linter.unusedVariables false

def lvCells (o : Lv) : Obj := .cells #[.int .i64 (o.wide : Nat), .int .i64 (o.parts : Nat), .int .i64 (o.cells : Nat)] 120
theorem lvCells_below (o : Lv) (w : World) : Below w.heap.size w (w.alloc (lvCells o)) := (Below.refl w.heap.size w).alloc (Nat.le_refl _) _
set_option maxRecDepth 100000 in
set_option maxHeartbeats 1000000 in
theorem short_pro (o : Lv) (w : World) : Calls Tryz.prog 84 #[lvVal o] w (SaysL (.bool (shortB o)) w) := by
  have HT := Lib.hid (fun W => table_pro o W)
  have HB := Lib.hid (lvCells_below o w)
  have hx := heap_alloc_new w (lvCells o)
  have HX := Lib.hid hx
  have HV : Hid (shortB o = (tabB o && decide (0 < o.parts) && decide (o.cells < o.wide))) := Lib.hid rfl
  obtain ⟨wi, pa, ce⟩ := o
  dsimp only [lvVal, lvCells] at HT HB HX HV ⊢
  obtain ⟨tb, htb⟩ : ∃ tb, tabB ⟨wi, pa, ce⟩ = tb := ⟨_, rfl⟩
  rw [htb] at HT HV
  rw [HV.out]
  clear hx htb HV
  cases tb with
  | false =>
    go_enter Tryz.func84, Tryz.ntmps84
    go_wp2_with fail
    refine (HT.out _).mono ?_
    rintro e w2 ⟨rfl, hb⟩
    have HB2 := Lib.hid (HB.out.trans (hb.mono HB.out.size))
    clear hb
    go_wp2_with fail
    go_ret
    exact ⟨rfl, HB2.out⟩
  | true =>
    have fin : ∀ b c : Bool, decide (0 < pa) = b → decide (ce < wi) = c → Calls Tryz.prog 84 #[.agg #[.int .i64 (wi : Nat), .int .i64 (pa : Nat), .int .i64 (ce : Nat)]] w (SaysL (.bool (true && b && c)) w) := by
      intro b c hb hc
      cases b with
      | false =>
        have h1 : ¬ (0 : Int) < (pa : Nat) := by have := of_decide_eq_false hb; omega
        clear hb hc
        go_enter Tryz.func84, Tryz.ntmps84
        go_wp2_with fail
        refine (HT.out _).mono ?_
        rintro e w2 ⟨rfl, hb⟩
        have x2 := (hb.block w.heap.size (Array.getElem?_eq_some_iff.1 HX.out).1).trans HX.out
        have d1 : w2.cell? ⟨w.heap.size, 1, none⟩ = some (.int .i64 (pa : Nat)) := by rw [cell_of_row _ _ _ _ _ _ x2]; rfl
        have HB2 := Lib.hid (HB.out.trans (hb.mono HB.out.size))
        clear hb x2
        go_wp2_with fail
        go_ret
        exact ⟨rfl, HB2.out⟩
      | true =>
        have h1 : (0 : Int) < (pa : Nat) := by have := of_decide_eq_true hb; omega
        cases c with
        | false =>
          have h2 : ¬ (ce : Int) < (wi : Nat) := by have := of_decide_eq_false hc; omega
          clear hb
          go_enter Tryz.func84, Tryz.ntmps84
          go_wp2_with fail
          refine (HT.out _).mono ?_
          rintro e w2 ⟨rfl, hb⟩
          have x2 := (hb.block w.heap.size (Array.getElem?_eq_some_iff.1 HX.out).1).trans HX.out
          have d0 : w2.cell? ⟨w.heap.size, 0, none⟩ = some (.int .i64 (wi : Nat)) := by rw [cell_of_row _ _ _ _ _ _ x2]; rfl
          have d1 : w2.cell? ⟨w.heap.size, 1, none⟩ = some (.int .i64 (pa : Nat)) := by rw [cell_of_row _ _ _ _ _ _ x2]; rfl
          have d2 : w2.cell? ⟨w.heap.size, 2, none⟩ = some (.int .i64 (ce : Nat)) := by rw [cell_of_row _ _ _ _ _ _ x2]; rfl
          have HB2 := Lib.hid (HB.out.trans (hb.mono HB.out.size))
          clear hb x2
          go_wp2_with fail
          go_ret
          exact ⟨rfl, HB2.out⟩
        | true =>
          have h2 : (ce : Int) < (wi : Nat) := by have := of_decide_eq_true hc; omega
          clear hb hc
          go_enter Tryz.func84, Tryz.ntmps84
          go_wp2_with fail
          refine (HT.out _).mono ?_
          rintro e w2 ⟨rfl, hb⟩
          have x2 := (hb.block w.heap.size (Array.getElem?_eq_some_iff.1 HX.out).1).trans HX.out
          have d0 : w2.cell? ⟨w.heap.size, 0, none⟩ = some (.int .i64 (wi : Nat)) := by rw [cell_of_row _ _ _ _ _ _ x2]; rfl
          have d1 : w2.cell? ⟨w.heap.size, 1, none⟩ = some (.int .i64 (pa : Nat)) := by rw [cell_of_row _ _ _ _ _ _ x2]; rfl
          have d2 : w2.cell? ⟨w.heap.size, 2, none⟩ = some (.int .i64 (ce : Nat)) := by rw [cell_of_row _ _ _ _ _ _ x2]; rfl
          have HB2 := Lib.hid (HB.out.trans (hb.mono HB.out.size))
          clear hb x2
          go_wp2_with fail
          go_ret
          exact ⟨rfl, HB2.out⟩
    exact fin _ _ rfl rfl
set_option maxRecDepth 100000 in
set_option maxHeartbeats 1000000 in
theorem room_pro (o : Lv) (w : World) : Calls Tryz.prog 83 #[lvVal o] w (SaysL (.bool (roomB o)) w) := by
  have HT := Lib.hid (fun W => table_pro o W)
  have HS := Lib.hid (fun W => short_pro o W)
  have HB := Lib.hid (lvCells_below o w)
  have HX := Lib.hid (heap_alloc_new w (lvCells o))
  have HV : Hid (roomB o = (decide (0 < o.parts) && (shortB o || !tabB o))) := Lib.hid rfl
  obtain ⟨wi, pa, ce⟩ := o
  dsimp only [lvVal, lvCells] at HT HS HB HX HV ⊢
  obtain ⟨tb, htb⟩ : ∃ tb, tabB ⟨wi, pa, ce⟩ = tb := ⟨_, rfl⟩
  obtain ⟨sb, hsb⟩ : ∃ sb, shortB ⟨wi, pa, ce⟩ = sb := ⟨_, rfl⟩
  rw [htb] at HT HV
  rw [hsb] at HS HV
  rw [HV.out]
  clear htb hsb HV
  have fin : ∀ b : Bool, decide (0 < pa) = b → Calls Tryz.prog 83 #[.agg #[.int .i64 (wi : Nat), .int .i64 (pa : Nat), .int .i64 (ce : Nat)]] w (SaysL (.bool (b && (sb || !tb))) w) := by
    intro b hb
    cases b with
    | false =>
      have h1 : ¬ (0 : Int) < (pa : Nat) := by have := of_decide_eq_false hb; omega
      clear hb
      go_enter Tryz.func83, Tryz.ntmps83
      go_wp2_with fail
      go_ret
      exact ⟨rfl, HB.out⟩
    | true =>
      have h1 : (0 : Int) < (pa : Nat) := by have := of_decide_eq_true hb; omega
      clear hb
      cases sb with
      | true =>
        go_enter Tryz.func83, Tryz.ntmps83
        go_wp2_with fail
        refine (HS.out _).mono ?_
        rintro e w2 ⟨rfl, hb⟩
        have HB2 := Lib.hid (HB.out.trans (hb.mono HB.out.size))
        clear hb
        go_wp2_with fail
        go_ret
        exact ⟨rfl, HB2.out⟩
      | false =>
        cases tb with
        | false =>
          go_enter Tryz.func83, Tryz.ntmps83
          go_wp2_with fail
          refine (HS.out _).mono ?_
          rintro e w2 ⟨rfl, hb⟩
          have x2 := (hb.block w.heap.size (Array.getElem?_eq_some_iff.1 HX.out).1).trans HX.out
          have d0 : w2.cell? ⟨w.heap.size, 0, none⟩ = some (.int .i64 (wi : Nat)) := by rw [cell_of_row _ _ _ _ _ _ x2]; rfl
          have d1 : w2.cell? ⟨w.heap.size, 1, none⟩ = some (.int .i64 (pa : Nat)) := by rw [cell_of_row _ _ _ _ _ _ x2]; rfl
          have d2 : w2.cell? ⟨w.heap.size, 2, none⟩ = some (.int .i64 (ce : Nat)) := by rw [cell_of_row _ _ _ _ _ _ x2]; rfl
          have HB2 := Lib.hid (HB.out.trans (hb.mono HB.out.size))
          clear hb x2
          go_wp2_with fail
          refine (HT.out _).mono ?_
          rintro e w3 ⟨rfl, hb⟩
          have HB3 := Lib.hid (HB2.out.trans (hb.mono HB2.out.size))
          clear hb
          go_wp2_with fail
          go_ret
          exact ⟨rfl, HB3.out⟩
        | true =>
          go_enter Tryz.func83, Tryz.ntmps83
          go_wp2_with fail
          refine (HS.out _).mono ?_
          rintro e w2 ⟨rfl, hb⟩
          have x2 := (hb.block w.heap.size (Array.getElem?_eq_some_iff.1 HX.out).1).trans HX.out
          have d0 : w2.cell? ⟨w.heap.size, 0, none⟩ = some (.int .i64 (wi : Nat)) := by rw [cell_of_row _ _ _ _ _ _ x2]; rfl
          have d1 : w2.cell? ⟨w.heap.size, 1, none⟩ = some (.int .i64 (pa : Nat)) := by rw [cell_of_row _ _ _ _ _ _ x2]; rfl
          have d2 : w2.cell? ⟨w.heap.size, 2, none⟩ = some (.int .i64 (ce : Nat)) := by rw [cell_of_row _ _ _ _ _ _ x2]; rfl
          have HB2 := Lib.hid (HB.out.trans (hb.mono HB.out.size))
          clear hb x2
          go_wp2_with fail
          refine (HT.out _).mono ?_
          rintro e w3 ⟨rfl, hb⟩
          have HB3 := Lib.hid (HB2.out.trans (hb.mono HB2.out.size))
          clear hb
          go_wp2_with fail
          go_ret
          exact ⟨rfl, HB3.out⟩
  exact fin _ rfl
/-- The number of the first of the braces that is a link or a note, or -1. -/
def lkAt : List Int → Nat → Int
  | [], _ => -1
  | k :: l, i => if isLk k then (i : Int) else lkAt l (i + 1)
theorem lkAt_step {l : List Int} {i : Nat} (h : i < l.length) : lkAt (l.drop i) i = if isLk l[i] then (i : Int) else lkAt (l.drop (i + 1)) (i + 1) := by
  rw [List.drop_eq_getElem_cons h]
  rfl
theorem lkAt_any : ∀ (l : List Int) (i : Nat), decide (0 ≤ lkAt l i) = l.any isLk
  | [], i => rfl
  | k :: l, i => by
    unfold lkAt
    cases h : isLk k with
    | true => simp [h]
    | false => simp [h]; exact lkAt_any l (i + 1)
def linkF : Value := .func (.func 81) #[] #[]
set_option maxRecDepth 100000 in
set_option maxHeartbeats 1000000 in
theorem indexLinks_pro (M : Nat) (s : Wk) (w : World) (h : WkIs M w s) : Calls Tryz.prog 109 #[.slice (some ⟨M, 25, none⟩) s.br.length 16, linkF] w fun e w' => e = .returned (.int .i64 (lkAt s.br 0)) ∧ w = w' := by
  have HH := Lib.hid h
  have hb := h.bounds.2
  clear h
  unfold linkF
  go_enter Tryz.func109, Tryz.ntmps109
  go_wp2_with fail
  go_loop [8] (fun i => ∃ k : Nat, k ≤ s.br.length ∧ i = .int .i64 k ∧ Hid (lkAt (s.br.drop k) k = lkAt s.br 0)) (fun i => s.br.length - (intOf i).toNat)
  case atStart => exact ⟨0, Nat.zero_le _, rfl, Lib.hid rfl⟩
  case round =>
    obtain ⟨k, hk, rfl, HF⟩ := hrel
    by_cases hlt : k < s.br.length
    · have c := HH.out.brace hlt
      have hs := lkAt_step hlt
      obtain ⟨x, hx⟩ : ∃ x, s.br[k] = x := ⟨_, rfl⟩
      rw [hx] at c hs
      have HL := Lib.hid (isLink_pro x w)
      obtain ⟨b, hbx⟩ : ∃ b, isLk x = b := ⟨_, rfl⟩
      rw [hbx] at HL hs
      have k1 : (k : Int) < s.br.length := by omega
      have k2 : k < 16 := by omega
      clear hbx hx
      cases b with
      | true =>
        rw [if_pos rfl] at hs
        have HZ := Lib.hid (HF.out.symm.trans hs)
        clear hs
        go_wp2_with fail
        refine HL.out.mono ?_
        rintro e w1 ⟨rfl, rfl⟩
        go_wp2_with fail
        go_ret
        rw [HZ.out]
        exact ⟨rfl, rfl⟩
      | false =>
        rw [if_neg (by decide)] at hs
        have HZ := Lib.hid (hs.symm.trans HF.out)
        clear hs
        go_wp2_with fail
        refine HL.out.mono ?_
        rintro e w1 ⟨rfl, rfl⟩
        go_wp2_with fail
        go_round
        case rel => exact ⟨k + 1, by omega, by go_num, HZ.out⟩
        case measure => simp [intOf]; omega
    · have hz : lkAt s.br 0 = -1 := by rw [← HF.out, List.drop_eq_nil_of_le (by omega)]; rfl
      have HZ := Lib.hid hz
      have k1 : ¬ (k : Int) < s.br.length := by omega
      clear hz
      go_wp2_with fail
      go_ret
      rw [HZ.out]
      exact ⟨rfl, rfl⟩
set_option maxRecDepth 100000 in
theorem anyLink_pro (M : Nat) (s : Wk) (w : World) (h : WkIs M w s) : Calls Tryz.prog 80 #[.slice (some ⟨M, 25, none⟩) s.br.length 16, linkF] w fun e w' => e = .returned (.bool (s.br.any isLk)) ∧ w = w' := by
  have HI := Lib.hid (indexLinks_pro M s w h)
  rw [← lkAt_any s.br 0]
  obtain ⟨i, hi⟩ : ∃ i, lkAt s.br 0 = i := ⟨_, rfl⟩
  rw [hi] at HI ⊢
  obtain ⟨n, hn⟩ : ∃ n, s.br.length = n := ⟨_, rfl⟩
  rw [hn] at HI ⊢
  clear h hi hn
  unfold linkF at HI ⊢
  by_cases h0 : 0 ≤ i
  · rw [decide_eq_true h0]
    go_enter Tryz.func80, Tryz.ntmps80
    go_wp2_with fail
    refine HI.out.mono ?_
    rintro e w1 ⟨rfl, rfl⟩
    go_wp2_with fail
    go_ret
    exact ⟨rfl, rfl⟩
  · have h1 := decide_eq_false h0
    rw [h1]
    go_enter Tryz.func80, Tryz.ntmps80
    go_wp2_with fail
    refine HI.out.mono ?_
    rintro e w1 ⟨rfl, rfl⟩
    go_wp2_with fail
    go_ret
    exact ⟨rfl, rfl⟩
end Go.Proofs.YtjohhahfpgfjdaaGreatDoor.Ir
end
section
namespace Go.Proofs.YtjohhahfpgfjdaaGreatDoor.Ir
open Go.RowKit Go.Maps Go.Proofs.YtjohhahfpgfjdaaGreatDoor
set_option linter.unusedVariables false
def MayV (s : Wk) (k : Int) (b : Bool) : Prop := mayS s k = b
theorem MayV.ret {s : Wk} {k : Int} {a b : Bool} (h : MayV s k a) (e : a = b) : Ending.returned (.bool b) = Ending.returned (.bool (mayS s k)) := by rw [← e, ← show mayS s k = a from h]
theorem WkIs.drewN {M : Nat} {w : World} {s : Wk} (h : WkIs M w s) (n : Nat) : WkIs M (w.drewN n) s := h.below ⟨rfl, rfl, rfl, Nat.le_refl _, fun _ _ => rfl⟩
theorem belowN {B : Nat} {a w : World} (h : Below B a w) (n : Nat) : Below B a (w.drewN n) := ⟨h.os, h.tape, h.output, h.size, h.block⟩
def mayCall (M : Nat) (k : Int) (s : Wk) (w : World) : Prop := Calls Tryz.prog 50 #[.pointer (some ⟨M, 0, none⟩), .int .i64 k] w (SaysL (.bool (mayS s k)) w)

end Go.Proofs.YtjohhahfpgfjdaaGreatDoor.Ir
end
