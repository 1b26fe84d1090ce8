/- The program's nextRow and Apart of layer 7. -/
import Derived.Test.YtoeknophfcfahaaGreatDoorNq
import Derived.Test.YtoeknophfcfahaaGreatDoorNm
import Derived.BigRegion
import Derived.Deep.CutRange
namespace Go.Proofs.YtoeknophfcfahaaGreatDoor
open Go.RowKit Go.Maps Go.Sort
set_option linter.unusedVariables false

def ints (l : List Nat) : List Int := l.map fun (n : Nat) => (n : Int)
theorem ints_len (l : List Nat) : (ints l).length = l.length := by simp [ints]
theorem ints_get {l : List Nat} {i : Nat} (h : i < l.length) : (ints l)[i]'(by rw [ints_len]; exact h) = (l[i] : Int) := by simp [ints]
/-- The table of two lists of code points. -/
def tabN (x y : List Nat) (i k : Nat) : Nat := tab (ints x) (ints y) i k
theorem tabN_le {x y : List Nat} {i k : Nat} (hi : i ≤ x.length) (hk : k ≤ y.length) : tabN x y i k ≤ x.length + y.length := by
  unfold tabN tab
  have := lev_max ((ints x).take i).reverse ((ints y).take k).reverse
  simp only [List.length_reverse, List.length_take, ints_len] at this
  omega
theorem tabN_step {x y : List Nat} {i k : Nat} (hi : i < x.length) (hk : k < y.length) :
    tabN x y (i + 1) (k + 1) = min (tabN x y i k + if y[k] = x[i] then 0 else 1) (min (tabN x y i (k + 1) + 1) (tabN x y (i + 1) k + 1)) := by
  unfold tabN
  have h1 : i < (ints x).length := by rw [ints_len]; exact hi
  have h2 : k < (ints y).length := by rw [ints_len]; exact hk
  rw [tab_step h1 h2]
  have e : dif (ints x)[i] (ints y)[k] = if y[k] = x[i] then 0 else 1 := by
    rw [ints_get hi, ints_get hk]
    unfold dif
    by_cases h : y[k] = x[i]
    · rw [if_pos (by omega), if_pos h]
    · rw [if_neg (by omega), if_neg h]
  rw [e]
theorem tabN_at {x y : List Nat} {i k c d : Nat} (hc : x[i]? = some c) (hd : y[k]? = some d) :
    tabN x y (i + 1) (k + 1) = min (tabN x y i k + if d = c then 0 else 1) (min (tabN x y i (k + 1) + 1) (tabN x y (i + 1) k + 1)) := by
  obtain ⟨h1, rfl⟩ := List.getElem?_eq_some_iff.1 hc
  obtain ⟨h2, rfl⟩ := List.getElem?_eq_some_iff.1 hd
  exact tabN_step h1 h2
/-- A list of code points in memory. -/
def RdR (W : World) (b : Nat) (ys : List Nat) : Prop := b < W.heap.size ∧ ∀ j (hj : j < ys.length), W.cell? ⟨b, j, none⟩ = some (.int .i32 (ys[j] : Nat))
/-- A row of so many numbers, the first n of which are known. -/
def RowN (W : World) (g m n : Nat) (f : Nat → Nat) : Prop := ∃ cur, W.heap[g]? = some (.cells cur 3 (0, 0)) ∧ cur.size = m + 1 ∧ ∀ k, k < n → cur[k]? = some (.int .i64 (f k : Nat))
theorem RowN.cell {W : World} {g m n : Nat} {f : Nat → Nat} (h : RowN W g m n f) {k : Nat} (hk : k < n) : W.cell? ⟨g, k, none⟩ = some (.int .i64 (f k : Nat)) := by
  obtain ⟨cur, h1, h2, h3⟩ := h
  simp [World.cell?, h1, h3 k hk]
theorem RowN.some {W : World} {g m n : Nat} {f : Nat → Nat} (h : RowN W g m n f) {k : Nat} (hk : k ≤ m) : ∃ v, W.cell? ⟨g, k, none⟩ = some v := by
  obtain ⟨cur, h1, h2, h3⟩ := h
  exact ⟨cur[k], by simp [World.cell?, h1, show k < cur.size by omega]⟩
theorem RowN.frozen {W : World} {g m n : Nat} {f : Nat → Nat} (h : RowN W g m n f) (k : Nat) : W.frozen? ⟨g, k, none⟩ = false := by
  obtain ⟨cur, h1, h2, h3⟩ := h
  simp [World.frozen?, h1]
theorem RowN.set {W : World} {g m n : Nat} {f : Nat → Nat} (h : RowN W g m n f) (hn : n ≤ m) : RowN (W.setCell ⟨g, n, none⟩ (.int .i64 (f n : Nat))) g m (n + 1) f := by
  obtain ⟨cur, h1, h2, h3⟩ := h
  refine ⟨_, setCell_row h1 n _, by simp [h2], fun k hk => ?_⟩
  rw [Array.getElem?_setIfInBounds]
  by_cases e : n = k
  · subst e
    rw [if_pos rfl, if_pos (by omega)]
  · rw [if_neg e]
    exact h3 k (by omega)
theorem RowN.block {W W' : World} {g m n : Nat} {f : Nat → Nat} (h : RowN W g m n f) (e : W'.heap[g]? = W.heap[g]?) : RowN W' g m n f := by
  obtain ⟨cur, h1, h2, h3⟩ := h
  exact ⟨cur, e.trans h1, h2, h3⟩
theorem RowN.lt {W : World} {g m n : Nat} {f : Nat → Nat} (h : RowN W g m n f) : g < W.heap.size := by
  obtain ⟨cur, h1, _⟩ := h
  exact (Array.getElem?_eq_some_iff.1 h1).1
theorem grown_self (w : World) (g k : Nat) (v : Value) : w.grownBy (w.setCell ⟨g, k, none⟩ v) (some g) :=
  ⟨rfl, rfl, rfl, by simp [World.setCell], fun c hc hne => Below.heap_setCell _ _ _ _ (fun e => hne (by rw [e]))⟩
theorem grown_trans {w w1 w2 : World} {r : Option Nat} (h : w.grownBy w1 r) (k : w1.grownBy w2 r) : w.grownBy w2 r :=
  ⟨k.os.trans h.os, k.tape.trans h.tape, k.output.trans h.output, Nat.le_trans h.size k.size, fun c hc hne => (k.block c (Nat.lt_of_lt_of_le hc h.size) hne).trans (h.block c hc hne)⟩
theorem grown_drew {w w1 : World} {r : Option Nat} (h : w.grownBy w1 r) : w.grownBy w1.drew r := ⟨h.os, h.tape, h.output, h.size, h.block⟩

set_option maxRecDepth 100000 in
set_option maxHeartbeats 4000000 in
theorem next_row (x y : List Nat) (i ra ab cr ca rb cb c : Nat) (W : World) (hc : x[i]? = some c) (hR : RowN W ra y.length 0 (tabN x y (i + 1))) (hA : RowN W ab y.length (y.length + 1) (tabN x y i)) (hY : RdR W rb y) (hne : ra ≠ ab) (hnb : ra ≠ rb)
    (hx : x.length ≤ 16777216) (hy : y.length ≤ 16777216) :
    Calls Tryz.prog 60 #[.slice (some ⟨ra, 0, none⟩) (y.length + 1) cr, .slice (some ⟨ab, 0, none⟩) (y.length + 1) ca, .int .i32 c, .slice (some ⟨rb, 0, none⟩) y.length cb] W fun e W' =>
      e = .returned (.tuple #[]) ∧ RowN W' ra y.length (y.length + 1) (tabN x y (i + 1)) ∧ W.grownBy W' (some ra) := by
  have hi : i < x.length := (List.getElem?_eq_some_iff.1 hc).1
  have HC := Lib.hid hc
  have HX := Lib.hid hx
  have HY := Lib.hid hy
  have HA := Lib.hid hA
  have HYR := Lib.hid hY
  have c0 := hA.cell (k := 0) (by omega)
  obtain ⟨v0, r0⟩ := hR.some (k := 0) (Nat.zero_le _)
  have f0 := hR.frozen 0
  have t0 : tabN x y i 0 = i := tab_side _ _ (by rw [ints_len]; omega)
  have t1 : tabN x y (i + 1) 0 = i + 1 := tab_side _ _ (by rw [ints_len]; omega)
  rw [t0] at c0
  have b0 : (0 : Int) ≤ i := by omega
  have b1 : (i : Int) ≤ 16777216 := by omega
  have b2 : (0 : Int) < (y.length : Int) + 1 := by omega
  have b3 : (0 : Int) < ((y.length + 1 : Nat) : Int) := by omega
  have HR1 := Lib.hid (hR.set (Nat.zero_le _))
  rw [t1] at HR1
  have HII := Lib.hid hi
  clear hi hx hy hA hY hc t0 t1 hR
  go_enter Tryz.func60, Tryz.ntmps60
  go_wp2_with fail
  go_loopw [19] (fun j wr => ∃ k : Nat, j = .int .i64 k ∧ k ≤ y.length ∧ RowN wr ra y.length (k + 1) (tabN x y (i + 1)) ∧ W.grownBy wr (some ra)) (fun j _ => y.length - (intOf j).toNat)
  case atStart => exact ⟨0, rfl, Nat.zero_le _, HR1.out, grown_self _ _ _ _⟩
  case round =>
    obtain ⟨k, rfl, hk, hRk, hg⟩ := hrel
    have HRK := Lib.hid hRk
    have HG := Lib.hid hg
    by_cases hlt : k < y.length
    · obtain ⟨d, hd⟩ : ∃ d, y[k]? = some d := ⟨_, List.getElem?_eq_getElem hlt⟩
      have hdc := HYR.out.2 k hlt
      rw [show y[k] = d by rw [List.getElem?_eq_getElem hlt] at hd; exact Option.some.inj hd] at hdc
      have hb := (World.cell?_of_block (a := ⟨rb, k, none⟩) (hg.block rb HYR.out.1 (by simp; omega))).trans hdc
      have hAr := HA.out.block (hg.block ab HA.out.lt (by simp; omega))
      have a1 := hAr.cell (k := k) (by omega)
      have a2 := hAr.cell (k := k + 1) (by omega)
      have r1 := hRk.cell (k := k) (by omega)
      obtain ⟨v2, r2⟩ := hRk.some (k := k + 1) (by omega)
      have f2 := hRk.frozen (k + 1)
      have hHI := HII.out
      have l1 := tabN_le (x := x) (y := y) (i := i) (k := k) (by omega) (by omega)
      have l2 := tabN_le (x := x) (y := y) (i := i) (k := k + 1) (by omega) (by omega)
      have l3 := tabN_le (x := x) (y := y) (i := i + 1) (k := k) (by omega) (by omega)
      have HS := Lib.hid (tabN_at HC.out hd)
      have hXX := HX.out
      have hYY := HY.out
      obtain ⟨p, hp⟩ : ∃ p, tabN x y i k = p := ⟨_, rfl⟩
      obtain ⟨q, hq⟩ : ∃ q, tabN x y i (k + 1) = q := ⟨_, rfl⟩
      obtain ⟨r, hr⟩ : ∃ r, tabN x y (i + 1) k = r := ⟨_, rfl⟩
      rw [hp] at a1 l1 HS
      rw [hq] at a2 l2 HS
      rw [hr] at r1 l3 HS
      have bp : (p : Int) ≤ 33554432 := by omega
      have bq : (q : Int) ≤ 33554432 := by omega
      have br : (r : Int) ≤ 33554432 := by omega
      have bp0 : (0 : Int) ≤ p := by omega
      have bq0 : (0 : Int) ≤ q := by omega
      have br0 : (0 : Int) ≤ r := by omega
      have k1 : (k : Int) < (y.length : Int) + 1 := by omega
      have k2 : (k : Int) + 1 < (y.length : Int) + 1 := by omega
      have k3 : (0 : Int) ≤ (k : Int) + 1 := by omega
      have k4 : (k : Int) ≤ 16777216 := by omega
      have k5 : k < y.length + 1 := by omega
      have k6 : k + 1 < y.length + 1 := by omega
      have HSET := Lib.hid (hRk.set (by omega))
      have HD := Lib.hid hd
      clear hp hq hr l1 l2 l3 hd hdc hHI hXX hYY hAr hRk hg
      have v1 : IntKind.i64.wrap ((k : Int) + 1) = k + 1 := IntWalk.i64_in _ (by omega)
      have v2 : IntKind.i64.wrap ((q : Int) + 1) = q + 1 := IntWalk.i64_in _ (by omega)
      have v3 : IntKind.i64.wrap ((r : Int) + 1) = r + 1 := IntWalk.i64_in _ (by omega)
      have v4 : ((k : Int) + 1).toNat = k + 1 := by omega
      have V1 := Lib.hid v1
      have V2 := Lib.hid v2
      have V3 := Lib.hid v3
      have V4 := Lib.hid v4
      clear v1 v2 v3 v4
      have HM := Lib.hid (show ∀ M : Int, M = ((tabN x y (i + 1) (k + 1) : Nat) : Int) → RowN ((wr.setCell ⟨ra, k + 1, none⟩ (.int .i64 M)).drew) ra y.length (k + 1 + 1) (tabN x y (i + 1)) from fun M h => by rw [h]; exact HSET.out)
      by_cases he : d = c
      · have t1 : ((d : Int) != (c : Int)) = false := by simp; omega
        have HE := Lib.hid he
        clear he
        go_wp2_with fail
        have v1 := V1.out
        have v2 := V2.out
        have v3 := V3.out
        have v4 := V4.out
        go_region
        all_goals go_wp2_with fail
        all_goals go_roundw
        case measure => simp [intOf]; omega
        case rel =>
          clear v1 v2 v3 v4
          refine ⟨k + 1, by go_num, by omega, ?_, ?_⟩
          · refine HM.out _ ?_
            rw [HS.out, if_pos HE.out]
            repeat' split
            all_goals omega
          · exact grown_trans (grown_drew HG.out) (grown_self _ _ _ _)
      · have t1 : ((d : Int) != (c : Int)) = true := by simp; omega
        have HE := Lib.hid he
        clear he
        go_wp2_with fail
        have v1 := V1.out
        have v2 := V2.out
        have v3 := V3.out
        have v4 := V4.out
        go_region
        all_goals go_wp2_with fail
        all_goals go_roundw
        case measure => simp [intOf]; omega
        case rel =>
          clear v1 v2 v3 v4
          refine ⟨k + 1, by go_num, by omega, ?_, ?_⟩
          · refine HM.out _ ?_
            rw [HS.out, if_neg HE.out]
            repeat' split
            all_goals omega
          · exact grown_trans (grown_drew HG.out) (grown_self _ _ _ _)
    · obtain rfl : k = y.length := by omega
      have hlz : ¬ (y.length : Int) < y.length := by omega
      clear hRk hg hlt
      go_wp2_with fail
      go_end0
      exact ⟨rfl, HRK.out, HG.out⟩
/-- The code points of a text. -/
theorem runes_chs (s : ByteArray) : ∀ (f i : Nat) (acc : Array Value), (Conv.runesFrom s f i acc).toList = acc.toList ++ (chs s f i).map fun c => Value.int .i32 (c.2.1 : Nat)
  | 0, i, acc => by simp [Conv.runesFrom, chs]
  | f + 1, i, acc => by
    unfold Conv.runesFrom
    by_cases h : i < s.size
    · rw [if_pos h]
      simp only []
      rw [runes_chs s f]
      simp [chs, h]
    · rw [if_neg h]
      simp [chs, h]
theorem runes_list (s : ByteArray) : (Conv.runesFrom s s.size 0 #[]).toList = (cds s).map fun (n : Nat) => Value.int .i32 n := by
  rw [runes_chs]
  simp [cds, chars]
theorem runes_size (s : ByteArray) : (Conv.runesFrom s s.size 0 #[]).size = (cds s).length := by
  rw [← Array.length_toList, runes_list, List.length_map]
theorem cds_len (s : ByteArray) : (cds s).length ≤ s.size := by unfold cds; rw [List.length_map]; exact chars_len s
/-- '[]rune(s)': a new list of its code points. -/
theorem runes_run (s : ByteArray) (w : World) (hs : s.size ≤ 16777216) : ∃ cap C, (convert 9 123 (.string s)).run Tryz.prog w = .ok (.slice (some ⟨w.heap.size, 0, none⟩) (cds s).length cap) (w.drew.alloc (.cells C 21)) ∧
    RdR (w.drew.alloc (.cells C 21)) w.heap.size (cds s) := by
  have hz := runes_size s
  have hl := cds_len s
  refine ⟨_, _, by rw [run_runes_of_string w 9 123 21 s Tryz.underlying9 Tryz.underlying123 Tryz.underlying21 (by omega), hz], by simp, fun j hj => ?_⟩
  have h := World.cell?_alloc_mark w.drew (Conv.runesFrom s s.size 0 #[] ++ Array.replicate (grownCap w (cds s).length 0 21 - (cds s).length) (.int .i32 0)) 21 (0, 0) j
  refine h.trans ?_
  rw [Array.getElem?_append_left (by rw [hz]; exact hj), ← Array.getElem?_toList, runes_list]
  simp [hj]
end Go.Proofs.YtoeknophfcfahaaGreatDoor
