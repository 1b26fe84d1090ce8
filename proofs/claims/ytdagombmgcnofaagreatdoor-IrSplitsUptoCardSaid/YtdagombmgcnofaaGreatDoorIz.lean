/- Layer 11: the program's Split. -/
import Derived.Test.YtdagombmgcnofaaGreatDoorIy
namespace Go.Proofs.YtdagombmgcnofaaGreatDoor.Ir
open Go.RowKit Go.Maps Go.Proofs.YtdagombmgcnofaaGreatDoor
set_option linter.unusedVariables false
set_option linter.unusedSimpArgs false
def bareO (x : Opr) : Opr := if x.k = 1 then ⟨x.k, x.n, ByteArray.empty, x.w⟩ else x
def longsL : List Opr → List Int
  | [] => []
  | x :: l => (if x.k = 1 then [(x.t.size : Int)] else []) ++ longsL l
theorem longsL_app (a b : List Opr) : longsL (a ++ b) = longsL a ++ longsL b := by
  induction a with
  | nil => rfl
  | cons x a ih => simp only [List.cons_append, longsL, ih, List.append_assoc]
theorem longsL_len (l : List Opr) : (longsL l).length ≤ l.length := by
  induction l with
  | nil => simp [longsL]
  | cons x l ih => simp only [longsL, List.length_append, List.length_cons]; split <;> simp <;> omega
theorem longsL_take {l : List Opr} {k : Nat} (h : k < l.length) : longsL (l.take (k + 1)) = longsL (l.take k) ++ (if l[k].k = 1 then [(l[k].t.size : Int)] else []) := by
  rw [List.take_succ_eq_append_getElem h, longsL_app]
  simp [longsL]
/-- Of which the first k are bare. -/
def half (l : List Opr) (k : Nat) : List Opr := (l.take k).map bareO ++ l.drop k
theorem half_len (l : List Opr) (k : Nat) : (half l k).length = l.length := by unfold half; simp; omega
theorem half_zero (l : List Opr) : half l 0 = l := by simp [half]
theorem half_full (l : List Opr) : half l l.length = l.map bareO := by simp [half]
theorem half_at {l : List Opr} {k : Nat} (h : k < l.length) : (half l k)[k]'(by rw [half_len]; exact h) = l[k] := by
  have e : half l k = (l.take k).map bareO ++ (l[k] :: l.drop (k + 1)) := by unfold half; rw [List.drop_eq_getElem_cons h]
  have hl : ((l.take k).map bareO).length = k := by simp; omega
  simp only [e]
  rw [List.getElem_append_right (by omega)]
  have h0 : k - ((l.take k).map bareO).length = 0 := by omega
  simp only [h0, List.getElem_cons_zero]
theorem half_succ {l : List Opr} {k : Nat} (h : k < l.length) : half l (k + 1) = (half l k).set k (bareO l[k]) := by
  have e : half l k = (l.take k).map bareO ++ (l[k] :: l.drop (k + 1)) := by unfold half; rw [List.drop_eq_getElem_cons h]
  have hl : ((l.take k).map bareO).length = k := by simp; omega
  rw [e, List.set_append_right _ _ (by omega), hl, Nat.sub_self, List.set_cons_zero]
  unfold half
  rw [List.take_succ_eq_append_getElem h, List.map_append, List.append_assoc]
  rfl
theorem set_same {l : List Opr} {k : Nat} (h : k < l.length) : l.set k l[k] = l := by
  apply List.ext_getElem
  · simp
  · intro i h1 h2
    rw [List.getElem_set]
    split
    · rename_i e; subst e; rfl
    · rfl
/-- The k-th text is another one. -/
theorem OwnO.text {B : Nat} {w : World} {g cap n : Nat} {qs : List (Opr × Value)} (hn : n = qs.length) (h : OwnO B w (.slice (some ⟨g, 0, none⟩) n cap) qs) {k : Nat} (hk : k < qs.length) (t : ByteArray) :
    OwnO B (w.setCell ⟨g, k * 4 + 2, none⟩ (.string t)) (.slice (some ⟨g, 0, none⟩) n cap) (qs.set k (⟨qs[k].1.k, qs[k].1.n, t, qs[k].1.w⟩, qs[k].2)) := by
  subst hn
  obtain ⟨hr, hg⟩ := h.row.stored (k * 4 + 2) (.string t)
  have hne : ∀ {v : Value} {n : Nat} {xs : List Value}, w.ownsRow B 3 1 v n xs → (w.setCell ⟨g, k * 4 + 2, none⟩ (.string t)).ownsRow B 3 1 v n xs := fun hz =>
    own_stays hz fun c hc => Below.heap_setCell _ _ _ _ (fun e => own_ne hz h.row (by decide) hc (by simp [Value.ownBlock, e]))
  refine ⟨by rw [List.length_set, ← rowsO_set2 qs k hk t]; exact hr, fun p hp => ?_⟩
  obtain ⟨j, hj, rfl⟩ := List.mem_iff_getElem.1 hp
  rw [List.length_set] at hj
  simp only [List.getElem_set]
  by_cases e : k = j
  · subst e
    simp only [if_true]
    exact hne (h.wid _ (List.getElem_mem hk))
  · simp only [if_neg e]
    exact hne (h.wid _ (List.getElem_mem hj))
/-- The blocks of Widths lie below a number. -/
def Low2 (C : Nat) (qs : List (Opr × Value)) : Prop := ∀ p ∈ qs, ∀ c, p.2.ownBlock = some c → c < C
theorem Low2.set {C : Nat} {qs : List (Opr × Value)} (h : Low2 C qs) {k : Nat} (hk : k < qs.length) (x : Opr) : Low2 C (qs.set k (x, qs[k].2)) := by
  intro p hp c hc
  rcases List.mem_or_eq_of_mem_set hp with hp | rfl
  · exact h p hp c hc
  · exact h _ (List.getElem_mem hk) c hc
theorem OwnO.beside {B C : Nat} {w w' : World} {v u : Value} {qs : List (Opr × Value)} {n : Nat} {xs : List Value} (h : OwnO B w v qs) (hq : Low2 C qs) (hu : w.ownsRow C 3 1 u n xs) (hg : w.grownBy w' u.ownBlock) : OwnO B w' v qs :=
  ⟨own_stays h.row fun c hc => hg.block c (own_base h.row hc).2 (fun e => own_ne hu h.row (by decide) e.symm hc), fun p hp => own_stays (h.wid p hp) fun c hc => hg.block c (own_base (h.wid p hp) hc).2 (fun e => by have := (own_base hu e.symm).1; have := hq p hp c hc; omega)⟩
def MakesS (l : List Opr) (w : World) (e : Ending) (w' : World) : Prop := ∃ v u ps, e = .returned (.tuple #[v, u]) ∧ OwnO w.heap.size w' v ps ∧ ps.map (·.1) = l.map bareO ∧ w'.ownsRow w.heap.size 3 1 u (longsL l).length (numsZ (longsL l)) ∧ Below w.heap.size w w'
theorem map_set {qs : List (Opr × Value)} {k : Nat} (x : Opr) (u : Value) : (qs.set k (x, u)).map (·.1) = (qs.map (·.1)).set k x := by rw [List.map_set]
set_option maxRecDepth 100000 in
set_option maxHeartbeats 4000000 in
theorem split_pro {P : Nat → Prop} (l : List Opr) (v : Value) (w : World) (h : RdO P w v l) (hl : l.length * 56 ≤ 140737488355328) (hlw : ∀ x ∈ l, x.w.length * 8 ≤ 140737488355328) (hts : ∀ x ∈ l, x.t.size ≤ 9223372036854775807) : Calls Tryz.prog 22 #[v] w (MakesS l w) := by
  obtain ⟨i0, hi0, hz0, hz1, hz2⟩ := info_parts infoI
  have HCl := Lib.hid (cloned_pro l v w h hl hlw)
  obtain ⟨pa, cap, rfl, hc1, hc2⟩ := sliceN h
  have HL := Lib.hid hl
  have HTS := Lib.hid hts
  obtain ⟨n, hn⟩ : ∃ n, l.length = n := ⟨_, rfl⟩
  have HN := Lib.hid hn
  rw [hn] at HCl hc1 ⊢
  have hn62 : n ≤ 9223372036854775807 := by omega
  clear h hl hlw hn hc1 hts
  go_enter Tryz.func22, Tryz.ntmps22
  go_wp2_with fail
  refine HCl.out.mono ?_
  rintro e w1 ⟨v1, ps, rfl, ho, hps, hb⟩
  have hpl : ps.length = n := by have := congrArg List.length hps; rw [List.length_map] at this; rw [this]; exact HN.out
  obtain ⟨p1, c1, rfl⟩ := lenL ho.row
  rw [hpl] at ho ⊢
  have HO1 := Lib.hid ho
  have HB1 := Lib.hid hb
  have HQ1 := Lib.hid (show ps.map (·.1) = half l 0 by rw [half_zero]; exact hps)
  have HL1 := Lib.hid (show Low2 w1.heap.size ps from fun p hp c hc => (own_base (ho.wid p hp) hc).2)
  have HPL := Lib.hid hpl
  clear ho hps hb hpl
  go_wp2_with fail
  go_loopw [5, 12] (fun s5 i wr => ∃ (k : Nat) (qs : List (Opr × Value)), i = .int .i64 k ∧ k ≤ n ∧ qs.length = n ∧ Hid (qs.map (·.1) = half l k) ∧ Hid (OwnO w.heap.size wr (.slice p1 n c1) qs) ∧ Hid (Low2 w1.heap.size qs) ∧ Hid (wr.ownsRow w1.heap.size 3 1 s5 (longsL (l.take k)).length (numsZ (longsL (l.take k)))) ∧ Hid (Below w.heap.size w wr) ∧ Hid (w1.heap.size ≤ wr.heap.size)) (fun _ i _ => n - (intOf i).toNat)
  case atStart => exact ⟨0, ps, rfl, Nat.zero_le _, HPL.out, HQ1, HO1, HL1, Lib.hid (World.ownsRow_nil _ _ _ _), HB1, Lib.hid (Nat.le_refl _)⟩
  case round =>
    obtain ⟨k, qs, rfl, hk, hql, HQ, HO, HLq, HS, HB, HC⟩ := hrel
    have HQL := Lib.hid hql
    obtain ⟨p5, c5, rfl⟩ := lenL HS.out
    by_cases hlt : k < n
    · have hkl : k < l.length := by rw [HN.out]; exact hlt
      have hkq : k < qs.length := by omega
      obtain ⟨g, cap', e, hBg, hgl, _, _, d0, d1, d2, d3⟩ := row_cells HO.out.row hkq
      rw [hql] at e
      cases e
      have hq1 : (qs[k]'hkq).1 = l[k]'hkl := by
        have h9 : (qs.map (·.1))[k]? = (half l k)[k]? := by rw [HQ.out]
        rw [List.getElem?_map, List.getElem?_eq_getElem hkq, List.getElem?_eq_getElem (by rw [half_len]; exact hkl), half_at hkl] at h9
        exact Option.some.inj h9
      have HHS := Lib.hid (half_succ hkl)
      have HLT2 := Lib.hid (longsL_take hkl)
      have hsz := HTS.out _ (List.getElem_mem hkl)
      have HSK := Lib.hid (set_same (l := half l k) (k := k) (by rw [half_len]; exact hkl))
      have HHA := Lib.hid (half_at hkl)
      have HOT := Lib.hid (fun (W : World) (h : OwnO w.heap.size W (.slice (some ⟨g, 0, none⟩) n c1) qs) => OwnO.text hql.symm h hkq ByteArray.empty)
      have HL2s := Lib.hid (HLq.out.set hkq ⟨(qs[k]'hkq).1.k, (qs[k]'hkq).1.n, ByteArray.empty, (qs[k]'hkq).1.w⟩)
      rw [hq1] at d0 d1 d2 HOT HL2s
      obtain ⟨x, hx⟩ : ∃ x, l[k]'hkl = x := ⟨_, rfl⟩
      rw [hx] at d0 d1 d2 HHS HLT2 hsz HOT HL2s HHA
      have k1 : (k : Int) < n := by omega
      have HLT := Lib.hid hlt
      have hll : (longsL (l.take k)).length ≤ n := by have := longsL_len (l.take k); simp at this; omega
      have L1 := Lib.hid (show (longsL (l.take k)).length + 1 ≤ maxLen by have := HL.out; have := HN.out; unfold maxLen; omega)
      have L2 := Lib.hid (show ((longsL (l.take k)).length + 1) * 8 ≤ 140737488355328 by have := HL.out; have := HN.out; omega)
      have HBG := Lib.hid hBg
      have HGL := Lib.hid hgl
      have kn : k < n := hlt
      obtain ⟨m, hm⟩ : ∃ m, (longsL (l.take k)).length = m := ⟨_, rfl⟩
      rw [hm] at L1 L2 HS ⊢
      have HM := Lib.hid hm
      by_cases hk1 : x.k = 1
      · have t1 : (x.k == 1) = true := by simpa using hk1
        have HK1 := Lib.hid hk1
        have hA : Below wr.heap.size wr (wr.alloc (.cells #[.int .i64 (x.t.size : Nat)] 3)) := (Below.refl _ _).alloc (Nat.le_refl _) _
        have HSA := Lib.hid (own_below HS.out hA)
        have HOA := Lib.hid (HO.out.below hA)
        have HBA := Lib.hid (HB.out.trans (hA.mono HB.out.size))
        have L3 := Lib.hid (show w1.heap.size ≤ (wr.alloc (.cells #[.int .i64 (x.t.size : Nat)] 3)).heap.size from Nat.le_trans HC.out hA.size)
        have HNC := Lib.hid (show ∀ j u, ([Value.int .i64 (x.t.size : Nat)] : List Value)[j]? = some u → (wr.alloc (.cells #[.int .i64 (x.t.size : Nat)] 3)).cell? ((⟨wr.heap.size, 0, none⟩ : Addr).add j) = some u from fun j u hu => by
          rw [Addr.add_lit, Nat.zero_add, cell_of_row _ _ _ _ _ _ (heap_alloc_new wr _), ← Array.getElem?_toList]
          exact hu)
        clear hA hk1 hx hlt hq1 hll hm hsz d1 d3 hBg hgl hql
        go_wp2_with (at_builtin; go_loud (refine wpList_append_own _ rfl _ _ 52 rfl w1.heap.size 3 i0 _ 1 8 Tryz.underlying52 hi0 hz0 hz1 hz2 rfl (by decide) _ _ _ rfl HSA.out ⟨wr.heap.size, 0, none⟩ 1 1 [.int .i64 (x.t.size : Nat)] rfl rfl HNC.out (by intro u hu; simp at hu; subst hu; rfl) L1.out L2.out L3.out ?_); intro v6 w6 hown6 hgrow6 _; have HS6 := Lib.hid hown6; have HG6 := Lib.hid hgrow6; have ho6 := HOA.out.beside HLq.out HSA.out hgrow6; have HO6 := Lib.hid ho6; have HB6 := Lib.hid (HBA.out.grown hgrow6 HBA.out.size (fun r e => Nat.le_trans HB1.out.size (own_base HSA.out e).1)); have HC6 := Lib.hid (Nat.le_trans L3.out hgrow6.size); have q2 : w6.cell? ⟨g, k * 4 + 2, none⟩ = some (.string x.t) := (by have h9 := HGL.out; rw [World.cell?_of_block (w := wr) (w' := w6) (a := ⟨g, k * 4 + 2, none⟩) ((hgrow6.block g (by simp; omega) (fun e => own_ne HSA.out HOA.out.row (by decide) e.symm rfl)).trans (Below.heap_alloc _ _ _ h9))]; exact d2); have q3 : w6.frozen? ⟨g, k * 4 + 2, none⟩ = false := (World.ownsRow.frozenAt (by have h9 := ho6.row; rw [HQL.out] at h9; exact h9) _); clear hown6 hgrow6 ho6)
        go_roundw
        case measure => have := HLT.out; simp [intOf]; omega
        case rel =>
          refine ⟨k + 1, qs.set k (⟨x.k, x.n, ByteArray.empty, x.w⟩, (qs[k]'hkq).2), by go_num, HLT.out, by rw [List.length_set]; exact HQL.out, Lib.hid ?_, Lib.hid (HOT.out _ HO6.out), HL2s, Lib.hid ?_, Lib.hid (HB6.out.setCell HBG.out _), Lib.hid (by rw [World.size_setCell]; exact HC6.out)⟩
          · rw [map_set, HQ.out, HHS.out, bareO, if_pos HK1.out]
          · have h9 := HLT2.out
            rw [if_pos HK1.out] at h9
            rw [h9, List.length_append, HM.out, numsZ_app]
            exact ownsRow_setCell_other HS6.out (a := ⟨g, k * 4 + 2, none⟩) (fun e => own_ne HS6.out HO6.out.row (by decide) e rfl) _
      · have t1 : (x.k == 1) = false := by simpa using hk1
        have HK1 := Lib.hid hk1
        clear hk1 hx hlt hq1 hll hm hsz d1 d2 d3 hBg hgl hql L1 L2
        go_wp2_with fail
        go_roundw
        case measure => have := HLT.out; simp [intOf]; omega
        case rel =>
          refine ⟨k + 1, qs, by go_num, HLT.out, HQL.out, Lib.hid ?_, HO, HLq, Lib.hid ?_, HB, HC⟩
          · have h8 := HSK.out
            rw [HHA.out] at h8
            rw [HQ.out, HHS.out, bareO, if_neg HK1.out, h8]
          · have h9 := HLT2.out
            rw [if_neg HK1.out, List.append_nil] at h9
            rw [h9, HM.out]
            exact HS.out
    · obtain rfl : k = n := by omega
      have hz1 : ¬ (k : Int) < k := by omega
      clear hlt
      go_wp2_with fail
      go_ret2
      have h1 := HQ.out
      have h2 := HS.out
      have h3 : l.take k = l := by rw [← HN.out, List.take_length]
      rw [← HN.out] at h1
      rw [half_full] at h1
      rw [h3] at h2
      have h4 := HO.out
      subst hql
      refine ⟨_, _, qs, rfl, h4, h1, ?_, HB.out⟩
      show World.ownsRow _ _ _ _ (.slice p5 (longsL (l.take _)).length c5) _ _
      rw [h3]
      exact own_lower h2 HB1.out.size
end Go.Proofs.YtdagombmgcnofaaGreatDoor.Ir
