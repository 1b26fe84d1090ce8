/- The program's readNames, bitOf. -/
import Derived.Test.YtceanagnkcejgaaGreatDoorWp
import Derived.Test.YtceanagnkcejgaaGreatDoorNs
namespace Go.Proofs.YtceanagnkcejgaaGreatDoor
open Go.RowKit
set_option linter.unusedVariables false

theorem cut_idx : ∀ l : List UInt8, (Lib.indexByte l 58 = -1 ∧ l.dropWhile (fun c => !(c == 58)) = [] ∧ l.takeWhile (fun c => !(c == 58)) = l) ∨
    (∃ k : Nat, Lib.indexByte l 58 = (k : Int) ∧ l.take k = l.takeWhile (fun c => !(c == 58)) ∧ ∃ c, l.dropWhile (fun c => !(c == 58)) = c :: l.drop (k + 1))
  | [] => .inl ⟨rfl, rfl, rfl⟩
  | b :: l => by
    by_cases hb : b = 58
    · right
      exact ⟨0, by simp [Lib.indexByte, hb], by simp [hb], b, by simp [hb]⟩
    · have hb2 : (b == 58) = false := by simpa using hb
      rcases cut_idx l with ⟨h1, h2, h3⟩ | ⟨k, h1, h2, c, h3⟩
      · left
        refine ⟨by simp [Lib.indexByte, hb2, h1], ?_, ?_⟩
        · rw [List.dropWhile_cons, if_pos (by simp [hb2]), h2]
        · rw [List.takeWhile_cons, if_pos (by simp [hb2]), h3]
      · right
        refine ⟨k + 1, ?_, ?_, c, ?_⟩
        · have : ¬ ((k : Int) = -1) := by omega
          simp [Lib.indexByte, hb2, h1, this]
        · rw [List.takeWhile_cons, if_pos (by simp [hb2]), List.take_succ_cons, h2]
        · rw [List.dropWhile_cons, if_pos (by simp [hb2]), h3]; rfl
theorem cut58 (l : List UInt8) : Lib.cut l [58] = (match l.dropWhile (fun c => !(c == 58)) with
    | [] => (l, [], false)
    | _ :: p => (l.takeWhile (fun c => !(c == 58)), p, true)) := by
  unfold Lib.cut
  rw [Lib.index_one]
  rcases cut_idx l with ⟨h1, h2, h3⟩ | ⟨k, h1, h2, c, h3⟩
  · rw [h1, h2, if_neg (by omega)]
  · rw [h1, h3, if_pos (by omega)]
    simp [h2]
/-- What readNames answers. -/
def rnV : Option (List UInt8 × List UInt8) → Value
  | none => .tuple #[styVal zeroS, .bool false]
  | some p => .tuple #[styVal ⟨p.1, p.2, none0⟩, .bool true]
theorem nms_none {w : List UInt8} (h : w.dropWhile (fun c => !(c == 58)) = []) : nmsM w = if nameB w then some (w, []) else none := by unfold nmsM; rw [h]
theorem nms_some {w p : List UInt8} {c : UInt8} (h : w.dropWhile (fun c => !(c == 58)) = c :: p) : nmsM w = if nameB (w.takeWhile (fun c => !(c == 58))) && nameB p then some (w.takeWhile (fun c => !(c == 58)), p) else none := by unfold nmsM; rw [h]
/-- Behind a store into a box of five cells. -/
theorem set5c {w1 : World} {b : Nat} {u0 u1 u2 u3 u4 : Value} {t : TypeId} (hx : w1.heap[b]? = some (.cells #[u0, u1, u2, u3, u4] t (0, 0))) (a0 a1 a2 a3 a4 : Value) :
    ∃ W, ((((w1.setCell ⟨b, 0, none⟩ a0).setCell ⟨b, 1, none⟩ a1).setCell ⟨b, 2, none⟩ a2).setCell ⟨b, 3, none⟩ a3).setCell ⟨b, 4, none⟩ a4 = W ∧ W.heap[b]? = some (.cells #[a0, a1, a2, a3, a4] t (0, 0)) ∧
      W.cell? ⟨b, 0, none⟩ = some a0 ∧ W.cell? ⟨b, 1, none⟩ = some a1 ∧ W.cell? ⟨b, 2, none⟩ = some a2 ∧ W.cell? ⟨b, 3, none⟩ = some a3 ∧ W.cell? ⟨b, 4, none⟩ = some a4 ∧ Below b w1 W := by
  have h3 := heap_setCell_same _ b 4 _ _ a4 (heap_setCell_same _ b 3 _ _ a3 (heap_setCell_same _ b 2 _ _ a2 (heap_setCell_same _ b 1 _ _ a1 (heap_setCell_same w1 b 0 _ _ a0 hx))))
  exact ⟨_, rfl, h3, (cell_of_row _ _ 0 _ _ _ h3).trans rfl, (cell_of_row _ _ 1 _ _ _ h3).trans rfl, (cell_of_row _ _ 2 _ _ _ h3).trans rfl, (cell_of_row _ _ 3 _ _ _ h3).trans rfl, (cell_of_row _ _ 4 _ _ _ h3).trans rfl,
    (((((Below.refl b w1).setCell (p := ⟨b, 0, none⟩) (Nat.le_refl _) _).setCell (p := ⟨b, 1, none⟩) (Nat.le_refl _) _).setCell (p := ⟨b, 2, none⟩) (Nat.le_refl _) _).setCell (p := ⟨b, 3, none⟩) (Nat.le_refl _) _).setCell (p := ⟨b, 4, none⟩) (Nat.le_refl _) _⟩
theorem take_len {w : List UInt8} {p : UInt8 → Bool} : (w.takeWhile p).length ≤ w.length := (List.takeWhile_sublist p).length_le
theorem drop_len {w p : List UInt8} {c : UInt8} {q : UInt8 → Bool} (h : w.dropWhile q = c :: p) : p.length ≤ w.length := by
  have := (List.dropWhile_sublist q (l := w)).length_le
  rw [h] at this; simp at this; omega
theorem below_draws' {B : Nat} {w w1 : World} (h : Below B w w1) (n : Nat) : Below B w (w1.drewN n) := ⟨h.os, h.tape, h.output, h.size, h.block⟩

set_option maxRecDepth 100000 in
set_option maxHeartbeats 4000000 in
theorem readNames_pro (t : List UInt8) (w : World) (ht : t.length ≤ 4096) (hT : Tabs w) :
    Calls Tryz.prog 40 #[.string (bs t)] w (Says (rnV (nmsM t)) w) := by
  have hA := (Below.refl _ w).alloc (Nat.le_refl _) (.cells #[.string ⟨#[]⟩, .string ⟨#[]⟩, .int .i64 0, .int .i64 0, .int .i64 0] 29)
  have HA := Lib.hid hA
  have HX := Lib.hid (heap_alloc_new w (.cells #[.string ⟨#[]⟩, .string ⟨#[]⟩, .int .i64 0, .int .i64 0, .int .i64 0] 29))
  obtain ⟨m, hm⟩ := (hT.at hA).len
  have HC := Lib.hid (Tryz.strings_Cut (bs t) ⟨#[58]⟩ m _ (by rw [bs_len]; omega) hm)
  have e1 : (bs t).data.toList = t := by simp [bs]
  have hc := cut58 t
  have hn0 := @nms_none t
  have hn1 := @nms_some t
  have hpl := @drop_len t
  rw [e1] at HC
  change Hid (Calls _ _ _ _ (fun e w' => e = .returned (.tuple #[.string (bs (Lib.cut t [58]).1), .string (bs (Lib.cut t [58]).2.1), .bool (Lib.cut t [58]).2.2]) ∧ ∃ n, w' = World.drewN _ n)) at HC
  rw [hc] at HC
  clear hA hm e1 hc hT
  cases hd : t.dropWhile (fun c => !(c == 58)) with
  | nil =>
    rw [hd] at HC
    have hn := hn0 hd
    dsimp only at HC
    clear hn0 hn1 hpl hd
    have HN1 := Lib.hid (fun W => isName_pro t W (by omega))
    by_cases hb : nameB t = true
    · rw [hb] at hn HN1
      have HV := Lib.hid (show nmsM t = some (t, []) from hn)
      clear hn hb
      have e0 : bs [] = ⟨#[]⟩ := rfl
      rw [e0] at HC
      go_enter Tryz.func40, Tryz.ntmps40
      go_wp2_with fail
      refine HC.out.mono ?_
      rintro e w1 ⟨rfl, n1, rfl⟩
      have HB1 := Lib.hid (below_draws' HA.out n1)
      have HX1 := Lib.hid (show ((w.alloc (.cells #[.string ⟨#[]⟩, .string ⟨#[]⟩, .int .i64 0, .int .i64 0, .int .i64 0] 29)).drewN n1).heap[w.heap.size]? = some (.cells #[.string ⟨#[]⟩, .string ⟨#[]⟩, .int .i64 0, .int .i64 0, .int .i64 0] 29 (0, 0)) from HX.out)
      go_wp2_with fail
      refine (HN1.out _).mono ?_
      rintro e w2 ⟨rfl, hb⟩
      have HB2 := Lib.hid (HB1.out.trans (hb.mono HB1.out.size))
      have hx2 := (hb.block w.heap.size (Array.getElem?_eq_some_iff.1 HX1.out).1).trans HX1.out
      have HX2 := Lib.hid hx2
      clear hb hx2
      have hx9 := HX2.out
      have HX9 := Lib.hid hx9
      have z0 := frozen_of_row w2 w.heap.size 0 _ _ hx9
      have c0 : w2.cell? ⟨w.heap.size, 0, none⟩ = some (.string ⟨#[]⟩) := by rw [cell_of_row _ _ _ _ _ _ hx9]; rfl
      have z1 := frozen_of_row w2 w.heap.size 1 _ _ hx9
      have c1 : w2.cell? ⟨w.heap.size, 1, none⟩ = some (.string ⟨#[]⟩) := by rw [cell_of_row _ _ _ _ _ _ hx9]; rfl
      have z2 := frozen_of_row w2 w.heap.size 2 _ _ hx9
      have c2 : w2.cell? ⟨w.heap.size, 2, none⟩ = some (.int .i64 0) := by rw [cell_of_row _ _ _ _ _ _ hx9]; rfl
      have z3 := frozen_of_row w2 w.heap.size 3 _ _ hx9
      have c3 : w2.cell? ⟨w.heap.size, 3, none⟩ = some (.int .i64 0) := by rw [cell_of_row _ _ _ _ _ _ hx9]; rfl
      have z4 := frozen_of_row w2 w.heap.size 4 _ _ hx9
      have c4 : w2.cell? ⟨w.heap.size, 4, none⟩ = some (.int .i64 0) := by rw [cell_of_row _ _ _ _ _ _ hx9]; rfl
      clear hx9
      go_wp2_with fail
      obtain ⟨W, hW, hr, k0, k1, k2, k3, k4, hbW⟩ := set5c HX9.out (.string (bs t)) (.string ⟨#[]⟩) (.int .i64 0) (.int .i64 0) (.int .i64 (-1))
      rw [hW, HV.out]
      exact bodyPost_ret (v := rnV (some (t, []))) (by simp [results, Tryz.results40, go_sem, k0, k1, k2, k3, k4, rnV, styVal, none0, bs]) rfl ⟨rfl, HB2.out.trans hbW⟩
    · have hb2 : nameB t = false := by simpa using hb
      rw [hb2] at hn HN1
      have HV := Lib.hid (show nmsM t = none from hn)
      clear hn hb
      have e0 : bs [] = ⟨#[]⟩ := rfl
      rw [e0] at HC
      go_enter Tryz.func40, Tryz.ntmps40
      go_wp2_with fail
      refine HC.out.mono ?_
      rintro e w1 ⟨rfl, n1, rfl⟩
      have HB1 := Lib.hid (below_draws' HA.out n1)
      have HX1 := Lib.hid (show ((w.alloc (.cells #[.string ⟨#[]⟩, .string ⟨#[]⟩, .int .i64 0, .int .i64 0, .int .i64 0] 29)).drewN n1).heap[w.heap.size]? = some (.cells #[.string ⟨#[]⟩, .string ⟨#[]⟩, .int .i64 0, .int .i64 0, .int .i64 0] 29 (0, 0)) from HX.out)
      go_wp2_with fail
      refine (HN1.out _).mono ?_
      rintro e w2 ⟨rfl, hb⟩
      have HB2 := Lib.hid (HB1.out.trans (hb.mono HB1.out.size))
      have hx2 := (hb.block w.heap.size (Array.getElem?_eq_some_iff.1 HX1.out).1).trans HX1.out
      have HX2 := Lib.hid hx2
      clear hb hx2
      have hx9 := HX2.out
      have HX9 := Lib.hid hx9
      have z0 := frozen_of_row w2 w.heap.size 0 _ _ hx9
      have c0 : w2.cell? ⟨w.heap.size, 0, none⟩ = some (.string ⟨#[]⟩) := by rw [cell_of_row _ _ _ _ _ _ hx9]; rfl
      have z1 := frozen_of_row w2 w.heap.size 1 _ _ hx9
      have c1 : w2.cell? ⟨w.heap.size, 1, none⟩ = some (.string ⟨#[]⟩) := by rw [cell_of_row _ _ _ _ _ _ hx9]; rfl
      have z2 := frozen_of_row w2 w.heap.size 2 _ _ hx9
      have c2 : w2.cell? ⟨w.heap.size, 2, none⟩ = some (.int .i64 0) := by rw [cell_of_row _ _ _ _ _ _ hx9]; rfl
      have z3 := frozen_of_row w2 w.heap.size 3 _ _ hx9
      have c3 : w2.cell? ⟨w.heap.size, 3, none⟩ = some (.int .i64 0) := by rw [cell_of_row _ _ _ _ _ _ hx9]; rfl
      have z4 := frozen_of_row w2 w.heap.size 4 _ _ hx9
      have c4 : w2.cell? ⟨w.heap.size, 4, none⟩ = some (.int .i64 0) := by rw [cell_of_row _ _ _ _ _ _ hx9]; rfl
      clear hx9
      go_wp2_with fail
      obtain ⟨W, hW, hr, k0, k1, k2, k3, k4, hbW⟩ := set5c HX9.out (.string ⟨#[]⟩) (.string ⟨#[]⟩) (.int .i64 0) (.int .i64 0) (.int .i64 0)
      rw [hW, HV.out]
      exact bodyPost_ret (v := rnV none) (by simp [results, Tryz.results40, go_sem, k0, k1, k2, k3, k4, rnV, styVal, zeroS, zeroC, bs]) rfl ⟨rfl, HB2.out.trans hbW⟩
  | cons c p =>
    rw [hd] at HC
    have hn := hn1 hd
    have hp := hpl hd
    dsimp only at HC
    have ha := take_len (w := t) (p := fun c => !(c == 58))
    obtain ⟨a, hta⟩ : ∃ a, t.takeWhile (fun c => !(c == 58)) = a := ⟨_, rfl⟩
    rw [hta] at HC hn ha
    have HN1 := Lib.hid (fun W => isName_pro a W (by omega))
    have HN2 := Lib.hid (fun W => isName_pro p W (by omega))
    clear hn0 hn1 hpl hd hta
    by_cases hb : nameB a = true
    · rw [hb] at hn HN1
      by_cases hb2 : nameB p = true
      · rw [hb2] at hn HN2
        have HV := Lib.hid (show nmsM t = some (a, p) from hn)
        clear hn hb hb2
        go_enter Tryz.func40, Tryz.ntmps40
        go_wp2_with fail
        refine HC.out.mono ?_
        rintro e w1 ⟨rfl, n1, rfl⟩
        have HB1 := Lib.hid (below_draws' HA.out n1)
        have HX1 := Lib.hid (show ((w.alloc (.cells #[.string ⟨#[]⟩, .string ⟨#[]⟩, .int .i64 0, .int .i64 0, .int .i64 0] 29)).drewN n1).heap[w.heap.size]? = some (.cells #[.string ⟨#[]⟩, .string ⟨#[]⟩, .int .i64 0, .int .i64 0, .int .i64 0] 29 (0, 0)) from HX.out)
        go_wp2_with fail
        refine (HN1.out _).mono ?_
        rintro e w2 ⟨rfl, hb⟩
        have HB2 := Lib.hid (HB1.out.trans (hb.mono HB1.out.size))
        have hx2 := (hb.block w.heap.size (Array.getElem?_eq_some_iff.1 HX1.out).1).trans HX1.out
        have HX2 := Lib.hid hx2
        clear hb hx2
        go_wp2_with fail
        refine (HN2.out _).mono ?_
        rintro e w3 ⟨rfl, hb⟩
        have HB3 := Lib.hid (HB2.out.trans (hb.mono HB2.out.size))
        have hx3 := (hb.block w.heap.size (Array.getElem?_eq_some_iff.1 HX2.out).1).trans HX2.out
        have HX3 := Lib.hid hx3
        clear hb hx3
        have hx9 := HX3.out
        have HX9 := Lib.hid hx9
        have z0 := frozen_of_row w3 w.heap.size 0 _ _ hx9
        have c0 : w3.cell? ⟨w.heap.size, 0, none⟩ = some (.string ⟨#[]⟩) := by rw [cell_of_row _ _ _ _ _ _ hx9]; rfl
        have z1 := frozen_of_row w3 w.heap.size 1 _ _ hx9
        have c1 : w3.cell? ⟨w.heap.size, 1, none⟩ = some (.string ⟨#[]⟩) := by rw [cell_of_row _ _ _ _ _ _ hx9]; rfl
        have z2 := frozen_of_row w3 w.heap.size 2 _ _ hx9
        have c2 : w3.cell? ⟨w.heap.size, 2, none⟩ = some (.int .i64 0) := by rw [cell_of_row _ _ _ _ _ _ hx9]; rfl
        have z3 := frozen_of_row w3 w.heap.size 3 _ _ hx9
        have c3 : w3.cell? ⟨w.heap.size, 3, none⟩ = some (.int .i64 0) := by rw [cell_of_row _ _ _ _ _ _ hx9]; rfl
        have z4 := frozen_of_row w3 w.heap.size 4 _ _ hx9
        have c4 : w3.cell? ⟨w.heap.size, 4, none⟩ = some (.int .i64 0) := by rw [cell_of_row _ _ _ _ _ _ hx9]; rfl
        clear hx9
        go_wp2_with fail
        obtain ⟨W, hW, hr, k0, k1, k2, k3, k4, hbW⟩ := set5c HX9.out (.string (bs a)) (.string (bs p)) (.int .i64 0) (.int .i64 0) (.int .i64 (-1))
        rw [hW, HV.out]
        exact bodyPost_ret (v := rnV (some (a, p))) (by simp [results, Tryz.results40, go_sem, k0, k1, k2, k3, k4, rnV, styVal, none0]) rfl ⟨rfl, HB3.out.trans hbW⟩
      · have hb3 : nameB p = false := by simpa using hb2
        rw [hb3] at hn HN2
        have HV := Lib.hid (show nmsM t = none from hn)
        clear hn hb hb2
        go_enter Tryz.func40, Tryz.ntmps40
        go_wp2_with fail
        refine HC.out.mono ?_
        rintro e w1 ⟨rfl, n1, rfl⟩
        have HB1 := Lib.hid (below_draws' HA.out n1)
        have HX1 := Lib.hid (show ((w.alloc (.cells #[.string ⟨#[]⟩, .string ⟨#[]⟩, .int .i64 0, .int .i64 0, .int .i64 0] 29)).drewN n1).heap[w.heap.size]? = some (.cells #[.string ⟨#[]⟩, .string ⟨#[]⟩, .int .i64 0, .int .i64 0, .int .i64 0] 29 (0, 0)) from HX.out)
        go_wp2_with fail
        refine (HN1.out _).mono ?_
        rintro e w2 ⟨rfl, hb⟩
        have HB2 := Lib.hid (HB1.out.trans (hb.mono HB1.out.size))
        have hx2 := (hb.block w.heap.size (Array.getElem?_eq_some_iff.1 HX1.out).1).trans HX1.out
        have HX2 := Lib.hid hx2
        clear hb hx2
        go_wp2_with fail
        refine (HN2.out _).mono ?_
        rintro e w3 ⟨rfl, hb⟩
        have HB3 := Lib.hid (HB2.out.trans (hb.mono HB2.out.size))
        have hx3 := (hb.block w.heap.size (Array.getElem?_eq_some_iff.1 HX2.out).1).trans HX2.out
        have HX3 := Lib.hid hx3
        clear hb hx3
        have hx9 := HX3.out
        have HX9 := Lib.hid hx9
        have z0 := frozen_of_row w3 w.heap.size 0 _ _ hx9
        have c0 : w3.cell? ⟨w.heap.size, 0, none⟩ = some (.string ⟨#[]⟩) := by rw [cell_of_row _ _ _ _ _ _ hx9]; rfl
        have z1 := frozen_of_row w3 w.heap.size 1 _ _ hx9
        have c1 : w3.cell? ⟨w.heap.size, 1, none⟩ = some (.string ⟨#[]⟩) := by rw [cell_of_row _ _ _ _ _ _ hx9]; rfl
        have z2 := frozen_of_row w3 w.heap.size 2 _ _ hx9
        have c2 : w3.cell? ⟨w.heap.size, 2, none⟩ = some (.int .i64 0) := by rw [cell_of_row _ _ _ _ _ _ hx9]; rfl
        have z3 := frozen_of_row w3 w.heap.size 3 _ _ hx9
        have c3 : w3.cell? ⟨w.heap.size, 3, none⟩ = some (.int .i64 0) := by rw [cell_of_row _ _ _ _ _ _ hx9]; rfl
        have z4 := frozen_of_row w3 w.heap.size 4 _ _ hx9
        have c4 : w3.cell? ⟨w.heap.size, 4, none⟩ = some (.int .i64 0) := by rw [cell_of_row _ _ _ _ _ _ hx9]; rfl
        clear hx9
        go_wp2_with fail
        obtain ⟨W, hW, hr, k0, k1, k2, k3, k4, hbW⟩ := set5c HX9.out (.string ⟨#[]⟩) (.string ⟨#[]⟩) (.int .i64 0) (.int .i64 0) (.int .i64 0)
        rw [hW, HV.out]
        exact bodyPost_ret (v := rnV none) (by simp [results, Tryz.results40, go_sem, k0, k1, k2, k3, k4, rnV, styVal, zeroS, zeroC, bs]) rfl ⟨rfl, HB3.out.trans hbW⟩
    · have hb2 : nameB a = false := by simpa using hb
      rw [hb2] at hn HN1
      have HV := Lib.hid (show nmsM t = none from hn)
      clear hn hb
      go_enter Tryz.func40, Tryz.ntmps40
      go_wp2_with fail
      refine HC.out.mono ?_
      rintro e w1 ⟨rfl, n1, rfl⟩
      have HB1 := Lib.hid (below_draws' HA.out n1)
      have HX1 := Lib.hid (show ((w.alloc (.cells #[.string ⟨#[]⟩, .string ⟨#[]⟩, .int .i64 0, .int .i64 0, .int .i64 0] 29)).drewN n1).heap[w.heap.size]? = some (.cells #[.string ⟨#[]⟩, .string ⟨#[]⟩, .int .i64 0, .int .i64 0, .int .i64 0] 29 (0, 0)) from HX.out)
      go_wp2_with fail
      refine (HN1.out _).mono ?_
      rintro e w2 ⟨rfl, hb⟩
      have HB2 := Lib.hid (HB1.out.trans (hb.mono HB1.out.size))
      have hx2 := (hb.block w.heap.size (Array.getElem?_eq_some_iff.1 HX1.out).1).trans HX1.out
      have HX2 := Lib.hid hx2
      clear hb hx2
      have hx9 := HX2.out
      have HX9 := Lib.hid hx9
      have z0 := frozen_of_row w2 w.heap.size 0 _ _ hx9
      have c0 : w2.cell? ⟨w.heap.size, 0, none⟩ = some (.string ⟨#[]⟩) := by rw [cell_of_row _ _ _ _ _ _ hx9]; rfl
      have z1 := frozen_of_row w2 w.heap.size 1 _ _ hx9
      have c1 : w2.cell? ⟨w.heap.size, 1, none⟩ = some (.string ⟨#[]⟩) := by rw [cell_of_row _ _ _ _ _ _ hx9]; rfl
      have z2 := frozen_of_row w2 w.heap.size 2 _ _ hx9
      have c2 : w2.cell? ⟨w.heap.size, 2, none⟩ = some (.int .i64 0) := by rw [cell_of_row _ _ _ _ _ _ hx9]; rfl
      have z3 := frozen_of_row w2 w.heap.size 3 _ _ hx9
      have c3 : w2.cell? ⟨w.heap.size, 3, none⟩ = some (.int .i64 0) := by rw [cell_of_row _ _ _ _ _ _ hx9]; rfl
      have z4 := frozen_of_row w2 w.heap.size 4 _ _ hx9
      have c4 : w2.cell? ⟨w.heap.size, 4, none⟩ = some (.int .i64 0) := by rw [cell_of_row _ _ _ _ _ _ hx9]; rfl
      clear hx9
      go_wp2_with fail
      obtain ⟨W, hW, hr, k0, k1, k2, k3, k4, hbW⟩ := set5c HX9.out (.string ⟨#[]⟩) (.string ⟨#[]⟩) (.int .i64 0) (.int .i64 0) (.int .i64 0)
      rw [hW, HV.out]
      exact bodyPost_ret (v := rnV none) (by simp [results, Tryz.results40, go_sem, k0, k1, k2, k3, k4, rnV, styVal, zeroS, zeroC, bs]) rfl ⟨rfl, HB2.out.trans hbW⟩
end Go.Proofs.YtceanagnkcejgaaGreatDoor
