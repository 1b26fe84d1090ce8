/- The program's joined and PutUint, PutInt of layer 3; the statements' twin and same. -/
import Derived.Test.YtcgeldmbndaocaaDoorGr
import Derived.Laws.CopyOwn
import Derived.Deep.AppendSrc
import Derived.Lib.ConvBytes
namespace Go.Proofs.YtcgeldmbndaocaaDoor
open Go.RowKit

theorem byteCells_at {l : List UInt8} {j : Nat} {v : Value} (h : (Lib.byteCells l)[j]? = some v) : ∃ hj : j < l.length, v = .int .u8 (l[j].toNat : Int) := by
  simp only [Lib.byteCells, List.getElem?_map] at h
  obtain ⟨x, hx, rfl⟩ := Option.map_eq_some_iff.1 h
  obtain ⟨hj, rfl⟩ := List.getElem?_eq_some_iff.1 hx
  exact ⟨hj, rfl⟩
theorem rd_cells {w : World} {pa : Option Addr} {n cap : Nat} {l : List UInt8} (h : Rd w (.slice pa n cap) l) : 0 < (Lib.byteCells l).length → ∃ ad, pa = some ad ∧ ∀ j v, (Lib.byteCells l)[j]? = some v → w.cell? (ad.add j) = some v := by
  obtain ⟨pa, cap, h1, _, _, h4⟩ := h
  cases h1
  intro hl
  rw [Lib.byteCells_length] at hl
  obtain ⟨b, off, rfl, _⟩ := h4 0 hl
  refine ⟨_, rfl, fun j v hv => ?_⟩
  obtain ⟨hj, rfl⟩ := byteCells_at hv
  obtain ⟨b', off', e, hc⟩ := h4 j hj
  cases e
  have e : (⟨b, off, none⟩ : Addr).add j = ⟨b, off + j, none⟩ := by unfold Addr.add; split <;> simp_all
  rw [e]; exact hc
theorem Rd.form {w : World} {v : Value} {l : List UInt8} (h : Rd w v l) : ∃ (pa : Option Addr) (cap : Nat), v = .slice pa l.length cap ∧ l.length ≤ cap ∧ cap ≤ maxLen := by
  obtain ⟨pa, cap, h1, h2, h3, _⟩ := h
  exact ⟨pa, cap, h1, h2, h3⟩
theorem row_of_made {w : World} {base g : Nat} {n : Nat} {xs : List Value} (h : w.ownsRow base 5 1 (.slice (some ⟨g, 0, none⟩) n n) n xs) : w.heap[g]? = some (.cells xs.toArray 5 (0, 0)) ∧ xs.length = n := by
  have hl := h.1
  rcases h.2 with ⟨h1, _⟩ | ⟨g', cap, cur, h1, hb, hg, h2, h3, h4, h5⟩
  · cases h1
  · cases h1
    have e : cur.toList.take (n * 1) = cur.toList := List.take_of_length_le (by rw [Array.length_toList]; omega)
    rw [e] at h5
    subst h5
    exact ⟨hg, by rw [Array.length_toList]; omega⟩
theorem own_of_row {w : World} {base g n : Nat} {l : List UInt8} (h : w.heap[g]? = some (.cells (Lib.byteCells l).toArray 5 (0, 0))) (hb : base ≤ g) (hn : l.length = n) (hm : n ≤ maxLen) : w.ownsRow base 5 1 (.slice (some ⟨g, 0, none⟩) n n) l.length (Lib.byteCells l) := by
  subst hn
  refine ⟨by rw [Lib.byteCells_length]; omega, .inr ⟨g, _, _, rfl, hb, h, Nat.le_refl _, hm, ?_, ?_⟩⟩
  · simp [Lib.byteCells_length]
  · exact List.take_of_length_le (by simp [Lib.byteCells_length])
theorem byteCells_one (l : List UInt8) : ∀ u ∈ Lib.byteCells l, u.oneCell' = true := by
  intro u hu
  simp only [Lib.byteCells, List.mem_map] at hu
  obtain ⟨x, _, rfl⟩ := hu
  rfl

set_option maxRecDepth 100000 in
set_option maxHeartbeats 2000000 in
theorem joined_pro (la lb : List UInt8) (va vb : Value) (w : World) (ha : Rd w va la) (hb : Rd w vb lb) (hl : la.length + lb.length ≤ 281474976710656) :
    Calls Tryd.prog 42 #[va, vb] w (Makes (la ++ lb) w) := by
  obtain ⟨i0, hi, hz0, hz1, hz2⟩ := info_parts info5
  have HA := Lib.hid ha
  have HB := Lib.hid hb
  obtain ⟨pa, ca, rfl, ka⟩ := ha.form
  obtain ⟨pb, cb, rfl, kb⟩ := hb.form
  have hm : la.length + lb.length ≤ maxLen := by unfold maxLen; omega
  obtain ⟨W5, hmk, hown, hgr⟩ := run_make_full (P := Tryd.prog) w w.heap.size 22 5 i0 _ 1 Tryd.underlying22 hi hz0 hz1 .i64 .i64 (la.length + lb.length) (by rw [hz2]; omega) hm (Nat.le_refl _)
  rw [Int.natCast_add] at hmk
  obtain ⟨hg5, hZ⟩ := row_of_made hown
  obtain ⟨Z, eZ⟩ : ∃ Z, (madeCells (Value.int IntKind.u8 0).cells ((la.length + lb.length) * 1)).toList = Z := ⟨_, rfl⟩
  rw [eZ] at hg5 hZ
  have hb5 : Below w.heap.size w W5 := (Below.refl _ _).grown hgr (Nat.le_refl _) (fun k hk => by cases hk)
  have HG5 := Lib.hid hg5
  have HZ := Lib.hid hZ
  have HB5 := Lib.hid hb5
  have HM := Lib.hid hm
  obtain ⟨X1, hX1⟩ : ∃ X1, Lib.byteCells la = X1 := ⟨_, rfl⟩
  obtain ⟨X2, hX2⟩ : ∃ X2, Lib.byteCells lb = X2 := ⟨_, rfl⟩
  have C1 := Lib.hid (rd_cells (HA.out.below hb5))
  have C2 := Lib.hid (fun (w2 : World) (h : Below w.heap.size w w2) => rd_cells (HB.out.below h))
  have L1 := Lib.hid (Lib.byteCells_length la)
  have L2 := Lib.hid (Lib.byteCells_length lb)
  have O1 := Lib.hid (byteCells_one la)
  have O2 := Lib.hid (byteCells_one lb)
  rw [hX1] at C1 L1 O1
  rw [hX2] at L2 O2 C2
  have EX1 := Lib.hid hX1
  have EX2 := Lib.hid hX2
  have SZ := Lib.hid (show (Tryd.prog.info? 5).map (·.size) = some 1 by rw [hi]; simp [hz1])
  have N1 := Lib.hid (show X1.length = Nat.min la.length (la.length + lb.length) by rw [L1.out]; exact (Nat.min_eq_left (by omega)).symm)
  have F1 := Lib.hid (show 0 + X1.length ≤ Z.length by rw [L1.out, HZ.out]; omega)
  have NE := Lib.hid (show 0 < X2.length → lb ≠ [] by rw [L2.out]; intro h e; rw [e] at h; simp at h)
  have N2 := Lib.hid (show X2.length = Nat.min lb.length lb.length by rw [L2.out]; exact (Nat.min_self _).symm)
  have F2 := Lib.hid (show la.length + X2.length ≤ (splice Z 0 X1).length by rw [length_splice _ _ _ F1.out, L2.out, HZ.out]; omega)
  have END := Lib.hid (show splice (splice Z 0 X1) la.length X2 = Lib.byteCells (la ++ lb) by
    rw [Lib.byteCells_append, hX1, hX2]
    have h1 : splice Z 0 X1 = X1 ++ Z.drop X1.length := by simp [splice]
    rw [h1, ← L1.out]
    unfold splice
    rw [List.take_left, List.drop_eq_nil_of_le (by simp [L1.out, L2.out, HZ.out]), List.append_nil])
  clear ha hb hg5 hZ hb5 hm hown hgr eZ hX1 hX2 ka kb
  go_enter Tryd.func42, Tryd.ntmps42
  go_wp2_with (first | (with_reducible refine wpList_copy_splice rfl (.tmp 16) (.tmp 17) 22 22 rfl 5 Tryd.underlying22 SZ.out _ _ _ _ _ _ rfl rfl w.heap.size la.length (splice Z 0 X1) 5 HG2.out X2 (by first | exact N2.out | (have := L2.out; simp_all)) (fun h => ⟨by have h3 := NE.out h; first | rfl | simp [h3], C2.out _ hB2 h⟩) F2.out O2.out w.heap.size w hB2 (Nat.le_refl _) ?_; intro w3 HG3 hB3; have E3 := HG3.out; rw [END.out] at E3; have HE3 := Lib.hid E3; clear E3) | with_reducible refine wpList_copy_splice rfl (.tmp 13) (.tmp 14) 22 22 rfl 5 Tryd.underlying22 SZ.out _ _ _ _ _ _ rfl rfl w.heap.size 0 Z 5 HG5.out X1 N1.out (fun h => ⟨rfl, C1.out h⟩) F1.out O1.out w.heap.size w HB5.out (Nat.le_refl _) ?_; intro w2 HG2 hB2; have e9 := L1.out; rw [e9]; clear e9)
  all_goals go_ret
  all_goals first | exact ⟨_, rfl, own_of_row HE3.out (Nat.le_refl _) (by simp) HM.out, hB3⟩ | (obtain rfl : lb = [] := by assumption); have E := HE3.out; rw [List.append_nil] at E; exact ⟨_, rfl, own_of_row E (Nat.le_refl _) rfl (by simpa using HM.out), hB3⟩
end Go.Proofs.YtcgeldmbndaocaaDoor
