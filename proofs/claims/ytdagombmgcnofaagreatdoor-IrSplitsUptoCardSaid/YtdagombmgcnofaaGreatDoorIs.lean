/- Layer 11: the program's cloned. -/
import Derived.Test.YtdagombmgcnofaaGreatDoorIr
namespace Go.Proofs.YtdagombmgcnofaaGreatDoor.Ir
open Go.RowKit Go.Maps Go.Proofs.YtdagombmgcnofaaGreatDoor
set_option linter.unusedVariables false
set_option linter.unusedSimpArgs false
theorem rowsO_set3 : ∀ (qs : List (Opr × Value)) (k : Nat) (h : k < qs.length) (u : Value), (rowsO qs).set (k * 4 + 3) u = rowsO (qs.set k (qs[k].1, u))
  | [], k, h, _ => absurd h (by simp)
  | r :: l, 0, _, u => by simp [rowsO, oprRow]
  | r :: l, k + 1, h, u => by
    have ih := rowsO_set3 l k (by simpa using h) u
    have e : ∀ (a : Opr × Value) (m : List (Opr × Value)), rowsO (a :: m) = oprRow a ++ rowsO m := fun a m => by simp [rowsO]
    rw [List.set_cons_succ, e, e, List.set_append_right _ _ (by rw [oprRow_len]; omega), oprRow_len, show (k + 1) * 4 + 3 - 4 = k * 4 + 3 by omega, ih]
    rfl
theorem rowsO_set2 : ∀ (qs : List (Opr × Value)) (k : Nat) (h : k < qs.length) (t : ByteArray), (rowsO qs).set (k * 4 + 2) (.string t) = rowsO (qs.set k (⟨qs[k].1.k, qs[k].1.n, t, qs[k].1.w⟩, qs[k].2))
  | [], k, h, _ => absurd h (by simp)
  | r :: l, 0, _, u => by simp [rowsO, oprRow]
  | r :: l, k + 1, h, u => by
    have ih := rowsO_set2 l k (by simpa using h) u
    have e : ∀ (a : Opr × Value) (m : List (Opr × Value)), rowsO (a :: m) = oprRow a ++ rowsO m := fun a m => by simp [rowsO]
    rw [List.set_cons_succ, e, e, List.set_append_right _ _ (by rw [oprRow_len]; omega), oprRow_len, show (k + 1) * 4 + 2 - 4 = k * 4 + 2 by omega, ih]
    rfl
/-- A copy of which the first k have Widths of their own. -/
structure ClSt (B : Nat) (P : Nat → Prop) (W : World) (v : Value) (ps qs : List (Opr × Value)) (k : Nat) : Prop where
  row : W.ownsRow B 81 4 v qs.length (rowsO qs)
  fst : qs.map (·.1) = ps.map (·.1)
  own : ∀ j (hj : j < qs.length), j < k → W.ownsRow B 3 1 qs[j].2 qs[j].1.w.length (numsZ qs[j].1.w)
  rest : ∀ j (hj : j < qs.length), k ≤ j → RdZ P W qs[j].2 qs[j].1.w
theorem ClSt.below {B : Nat} {P : Nat → Prop} {W W' : World} {v : Value} {ps qs : List (Opr × Value)} {k : Nat} (h : ClSt B P W v ps qs k) (hb : Below W.heap.size W W') : ClSt B P W' v ps qs k :=
  ⟨own_below h.row hb, h.fst, fun j hj hk => own_below (h.own j hj hk) hb, fun j hj hk => (h.rest j hj hk).below hb⟩
theorem ClSt.put {B : Nat} {W : World} {g cap n : Nat} {ps qs : List (Opr × Value)} {k : Nat} {P : Nat → Prop} (hn : n = qs.length) (h : ClSt B P W (.slice (some ⟨g, 0, none⟩) n cap) ps qs k) (hk : k < qs.length) {u : Value} (hu : W.ownsRow B 3 1 u qs[k].1.w.length (numsZ qs[k].1.w)) (hP : ∀ b, P b → b ≠ g) :
    ClSt B P (W.setCell ⟨g, k * 4 + 3, none⟩ u) (.slice (some ⟨g, 0, none⟩) n cap) ps (qs.set k (qs[k].1, u)) (k + 1) := by
  subst hn
  obtain ⟨hr, hg⟩ := h.row.stored (k * 4 + 3) u
  have hne : ∀ {v : Value} {n : Nat} {xs : List Value}, W.ownsRow B 3 1 v n xs → (W.setCell ⟨g, k * 4 + 3, none⟩ u).ownsRow B 3 1 v n xs := fun hz =>
    own_stays hz fun c hc => Below.heap_setCell _ _ _ _ (fun e => own_ne hz h.row (by decide) hc (by simp [Value.ownBlock, e]))
  refine ⟨by rw [List.length_set, ← rowsO_set3 qs k hk u]; exact hr, ?_, fun j hj hjk => ?_, fun j hj hjk => ?_⟩
  · rw [← h.fst]
    apply List.ext_getElem
    · simp
    · intro i h1 h2
      simp only [List.getElem_map, List.getElem_set]
      split
      · rename_i e; subst e; rfl
      · rfl
  · rw [List.length_set] at hj
    simp only [List.getElem_set]
    by_cases e : k = j
    · subst e
      simp only [if_true]
      exact hne hu
    · simp only [if_neg e]
      exact hne (h.own j hj (by omega))
  · rw [List.length_set] at hj
    simp only [List.getElem_set, if_neg (show ¬ k = j by omega)]
    exact (h.rest j hj (by omega)).keep fun a ha hlt => World.cell?_of_block (Below.heap_setCell _ _ _ _ (hP _ ha))
theorem ClSt.done {B : Nat} {P : Nat → Prop} {W : World} {v : Value} {ps qs : List (Opr × Value)} (h : ClSt B P W v ps qs qs.length) : OwnO B W v qs :=
  ⟨h.row, fun p hp => by
    obtain ⟨j, hj, rfl⟩ := List.mem_iff_getElem.1 hp
    exact h.own j hj hj⟩
def MakesL (l : List Opr) (w : World) (e : Ending) (w' : World) : Prop := ∃ v ps, e = .returned v ∧ OwnO w.heap.size w' v ps ∧ ps.map (·.1) = l ∧ Below w.heap.size w w'
set_option maxRecDepth 100000 in
set_option maxHeartbeats 4000000 in
theorem cloned_pro {P : Nat → Prop} (l : List Opr) (v : Value) (w : World) (h : RdO P w v l) (hl : l.length * 56 ≤ 140737488355328) (hlw : ∀ x ∈ l, x.w.length * 8 ≤ 140737488355328) : Calls Tryz.prog 70 #[v] w (MakesL l w) := by
  obtain ⟨pa, cap, ps, rfl, h1, h2, hps, hw, hc⟩ := h.pairs
  have hlen : ps.length = l.length := by rw [← hps, List.length_map]
  have hw' : ∀ p ∈ ps, RdZ (fun b => P b ∧ b < w.heap.size) w p.2 p.1.w := fun p hp => (hw p hp).imp fun b hb hpb => ⟨hpb, hb⟩
  have HCl := Lib.hid (cloneO_pro ps pa cap w hw hc (by rw [hlen]; exact hl))
  rw [hlen] at HCl
  have HPS := Lib.hid hps
  have HW := Lib.hid hw'
  have HLW := Lib.hid hlw
  obtain ⟨n, hn⟩ : ∃ n, l.length = n := ⟨_, rfl⟩
  have HN := Lib.hid (hlen.trans hn)
  have hn62 : n ≤ 9223372036854775807 := by unfold maxLen at h2; omega
  rw [hn] at HCl ⊢
  clear h h1 h2 hps hw hc hl hlw hlen hn hw'
  go_enter Tryz.func70, Tryz.ntmps70
  go_wp2_with fail
  refine HCl.out.mono ?_
  rintro e w1 ⟨v1, rfl, ho, hb⟩
  have HB1 := Lib.hid hb
  have HS := Lib.hid (show ClSt w.heap.size (fun b => P b ∧ b < w.heap.size) w1 v1 ps ps 0 from ⟨by rw [HN.out]; exact ho, rfl, fun j _ h => absurd h (Nat.not_lt_zero _), fun j hj _ => (HW.out _ (List.getElem_mem hj)).below hb⟩)
  obtain ⟨p1, c1, rfl⟩ := lenL ho
  clear ho hb
  go_wp2_with fail
  go_loopw [9] (fun i wr => ∃ (k : Nat) (qs : List (Opr × Value)), i = .int .i64 k ∧ k ≤ n ∧ qs.length = n ∧ Hid (ClSt w.heap.size (fun b => P b ∧ b < w.heap.size) wr (.slice p1 n c1) ps qs k) ∧ Hid (Below w.heap.size w wr)) (fun i _ => n - (intOf i).toNat)
  case atStart => exact ⟨0, ps, rfl, Nat.zero_le _, HN.out, HS, HB1⟩
  case round =>
    obtain ⟨k, qs, rfl, hk, hql, HQ, HB⟩ := hrel
    have HQL := Lib.hid hql
    by_cases hlt : k < n
    · have hkl : k < qs.length := by omega
      obtain ⟨g, cap', e, hBg, hgl, _, _, d0, d1, d2, d3⟩ := row_cells HQ.out.row hkl
      rw [hql] at e
      cases e
      have hz : RdZ _ wr (qs[k]'hkl).2 (qs[k]'hkl).1.w := HQ.out.rest k hkl (Nat.le_refl _)
      obtain ⟨p4, c4, hu, u1, u2⟩ := hz.form
      have hmem : qs[k].1 ∈ l := by
        rw [← HPS.out, ← HQ.out.fst]
        exact List.mem_map.2 ⟨_, List.getElem_mem hkl, rfl⟩
      have HCz := Lib.hid (cloneZ_pro (qs[k]'hkl).1.w (qs[k]'hkl).2 wr hz (HLW.out _ hmem))
      rw [hu] at HCz d3
      have k1 : (k : Int) < n := by omega
      have HLT := Lib.hid hlt
      have HKL := Lib.hid hkl
      have HBG := Lib.hid hBg
      have HGL := Lib.hid hgl
      obtain ⟨y, hy⟩ : ∃ y, (qs[k]'hkl).1.w = y := ⟨_, rfl⟩
      have HY := Lib.hid hy
      rw [hy] at HCz d3
      obtain ⟨z, hzl⟩ : ∃ z, y.length = z := ⟨_, rfl⟩
      rw [hzl] at HCz d3
      have HZL := Lib.hid hzl
      have kn : k < n := hlt
      clear hz hu u1 u2 hmem hzl hy d0 d1 d2 hql hlt hk
      go_wp2_with fail
      refine HCz.out.mono ?_
      rintro e w2 ⟨v2, rfl, ho, hb⟩
      obtain ⟨p6, c6, rfl⟩ := lenL ho
      have hq2 := HQ.out.below hb
      obtain ⟨g', cap'', e', _, _, _, _, _, _, _, d3⟩ := row_cells hq2.row HKL.out
      rw [HQL.out] at e'
      cases e'
      have f3 : w2.frozen? ⟨g, k * 4 + 3, none⟩ = false := by
        have h9 := hq2.row
        rw [HQL.out] at h9
        exact World.ownsRow.frozenAt h9 _
      have hput := ClSt.put (k := k) HQL.out.symm hq2 HKL.out (u := .slice p6 z c6) (own_lower (by rw [HY.out, HZL.out]; exact ho) HB.out.size) (fun b hb e => by have := HBG.out; have := hb.2; omega)
      have HPUT := Lib.hid hput
      have HB2 := Lib.hid ((HB.out.trans (hb.mono HB.out.size)).setCell (p := ⟨g, k * 4 + 3, none⟩) HBG.out (.slice p6 z c6))
      clear ho hb hq2 hput
      go_wp2_with fail
      go_roundw
      case measure => have := HLT.out; simp [intOf]; omega
      case rel => exact ⟨k + 1, _, by go_num, HLT.out, by rw [List.length_set]; exact HQL.out, HPUT, HB2⟩
    · obtain rfl : k = n := by omega
      have hz1 : ¬ (k : Int) < k := by omega
      clear hlt
      go_wp2_with fail
      go_ret
      subst hql
      exact ⟨_, qs, rfl, HQ.out.done, HQ.out.fst.trans HPS.out, HB.out⟩
end Go.Proofs.YtdagombmgcnofaaGreatDoor.Ir
