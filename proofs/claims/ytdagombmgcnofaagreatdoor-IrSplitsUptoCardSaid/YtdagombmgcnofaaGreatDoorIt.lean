/- Layer 11: the program's Text, Links. -/
import Derived.Test.YtdagombmgcnofaaGreatDoorIs
namespace Go.Proofs.YtdagombmgcnofaaGreatDoor.Ir
open Go.RowKit Go.Maps Go.Proofs.YtdagombmgcnofaaGreatDoor
set_option linter.unusedVariables false
set_option linter.unusedSimpArgs false
def textL : List Opr → List UInt8
  | [] => []
  | x :: l => (if x.k = 1 then x.t.data.toList else []) ++ textL l
theorem textL_app (a b : List Opr) : textL (a ++ b) = textL a ++ textL b := by
  induction a with
  | nil => rfl
  | cons x a ih => simp only [List.cons_append, textL, ih, List.append_assoc]
theorem textL_take {l : List Opr} {k : Nat} (h : k < l.length) : textL (l.take (k + 1)) = textL (l.take k) ++ (if l[k].k = 1 then l[k].t.data.toList else []) := by
  rw [List.take_succ_eq_append_getElem h, textL_app]
  simp [textL]
theorem textL_len (l : List Opr) : (textL l).length ≤ sumT l := by
  induction l with
  | nil => simp [textL, sumT]
  | cons x l ih =>
    simp only [textL, sumT, List.length_append]
    split
    · rw [toList_size]; omega
    · simp only [List.length_nil]; omega
set_option maxRecDepth 100000 in
set_option maxHeartbeats 2000000 in
theorem text_pro {P : Nat → Prop} (l : List Opr) (v : Value) (w : World) (h : RdO P w v l) (hz : sumT l ≤ 1000000000) : Calls Tryz.prog 31 #[v] w (SaysL (.string ⟨(textL l).toArray⟩) w) := by
  obtain ⟨pa, cap, rfl, hc1, hc2⟩ := sliceN h
  have HH := Lib.hid h
  have HZ := Lib.hid hz
  obtain ⟨n, hn⟩ : ∃ n, l.length = n := ⟨_, rfl⟩
  have HN := Lib.hid hn
  rw [hn] at HH hc1 ⊢
  have hn62 : n ≤ 9223372036854775807 := by omega
  clear h hz hn hc1
  go_enter Tryz.func31, Tryz.ntmps31
  go_wp2_with fail
  go_loopw [8] (fun i wr => ∃ k : Nat, i = .int .i64 k ∧ k ≤ n ∧ Hid (BIs w.heap.size w.heap.size (Lib.byteCells (textL (l.take k))) wr) ∧ Hid (Below w.heap.size w wr)) (fun i _ => n - (intOf i).toNat)
  case atStart => exact ⟨0, rfl, Nat.zero_le _, Lib.hid (Lib.IsBuilderF.of (Lib.fresh_isBuilder 169 5 w)), Lib.hid ((Below.refl _ w).alloc (Nat.le_refl _) _)⟩
  case round =>
    obtain ⟨k, rfl, hk, HBI, HB⟩ := hrel
    by_cases hlt : k < n
    · have hkl : k < l.length := by rw [HN.out]; exact hlt
      obtain ⟨b, off, rfl, c0, c1, c2, wv, c3, h4⟩ := (HH.out.below HB.out).at_ hkl
      have ht := textL_take hkl
      have hsz : (textL (l.take k)).length + l[k].t.size ≤ 140737488355328 := by
        have h1 := textL_len (l.take k)
        have h2 := sumT_take hkl
        have h3 := sumT_le l (k + 1)
        have := HZ.out
        omega
      obtain ⟨p4, q4, rfl, _, _⟩ := h4.form
      obtain ⟨x, hx⟩ : ∃ x, l[k] = x := ⟨_, rfl⟩
      rw [hx] at c0 c1 c2 c3 ht hsz
      obtain ⟨z4, hz4⟩ : ∃ z4, x.w.length = z4 := ⟨_, rfl⟩
      rw [hz4] at c3
      have hA : Below wr.heap.size wr (wr.alloc (.cells #[.int .i64 x.k, .int .i64 x.n, .string x.t, .slice p4 z4 q4] 81)) := (Below.refl _ _).alloc (Nat.le_refl _) _
      have HB2 := Lib.hid (HB.out.trans (hA.mono HB.out.size))
      have HBI2 := Lib.hid (bis_below HBI.out hA)
      have k1 : (k : Int) < n := by omega
      have HLT := Lib.hid hlt
      have HT := Lib.hid ht
      have HSZ := Lib.hid hsz
      clear ht hsz hx hz4 h4 hA hlt
      by_cases hk1 : x.k = 1
      · have t1 : (x.k == 1) = true := by simpa using hk1
        have HK := Lib.hid hk1
        clear hk1
        go_wp2_with fail
        refine (str_pro w.heap.size w.heap.size _ x.t _ HBI2.out (by rw [Lib.byteCells_length]; exact HSZ.out) HB2.out.size).mono ?_
        rintro e w3 ⟨rfl, b3, z3, _⟩
        have HB3 := Lib.hid (HB2.out.trans z3)
        have HBI3 := Lib.hid (show BIs w.heap.size w.heap.size (Lib.byteCells (textL (l.take (k + 1)))) w3 by rw [HT.out, if_pos HK.out, Lib.byteCells_append, ← Lib.strCells_eq]; exact .inr b3)
        clear b3 z3
        go_wp2_with fail
        go_roundw
        case measure => have := HLT.out; simp [intOf]; omega
        case rel => exact ⟨k + 1, by go_num, HLT.out, HBI3, HB3⟩
      · have t1 : (x.k == 1) = false := by simpa using hk1
        have HBI3 := Lib.hid (show BIs w.heap.size w.heap.size (Lib.byteCells (textL (l.take (k + 1)))) (wr.alloc (.cells #[.int .i64 x.k, .int .i64 x.n, .string x.t, .slice p4 z4 q4] 81)) by rw [HT.out, if_neg hk1, List.append_nil]; exact HBI2.out)
        clear hk1
        go_wp2_with fail
        go_roundw
        case measure => have := HLT.out; simp [intOf]; omega
        case rel => exact ⟨k + 1, by go_num, HLT.out, HBI3, HB2⟩
    · obtain rfl : k = n := by omega
      have hz1 : ¬ (k : Int) < k := by omega
      have hbi := HBI.out
      rw [show l.take k = l by rw [← HN.out, List.take_length]] at hbi
      have HS := Lib.hid (Tryz.Builder_String_any_k w.heap.size w.heap.size (textL l) wr hbi HB.out.size)
      clear hlt hbi
      go_wp2_with fail
      refine HS.out.mono ?_
      rintro e w2 ⟨rfl, _, hb, _⟩
      have HB2 := Lib.hid (HB.out.trans hb)
      clear hb
      go_wp2_with fail
      go_ret
      exact ⟨rfl, HB2.out⟩
/-- The links and notes. -/
def linksL (l : List Opr) : List Opr := l.filter fun x => isLk x.k
theorem linksL_take {l : List Opr} {k : Nat} (h : k < l.length) : linksL (l.take (k + 1)) = linksL (l.take k) ++ (if isLk l[k].k then [l[k]] else []) := by
  unfold linksL
  rw [List.take_succ_eq_append_getElem h, List.filter_append]
  congr 1
  simp only [List.filter_cons, List.filter_nil]
theorem row_rd {B : Nat} {P : Nat → Prop} {w : World} {v : Value} {ps : List (Opr × Value)} (h : w.ownsRow B 81 4 v ps.length (rowsO ps)) (hw : ∀ p ∈ ps, RdZ P w p.2 p.1.w) : RdO (fun _ => True) w v (ps.map (·.1)) := by
  rcases Nat.eq_zero_or_pos ps.length with h0 | h0
  · have : ps = [] := List.eq_nil_of_length_eq_zero h0
    subst this
    rcases h.2 with ⟨rfl, _⟩ | ⟨g, cap, cur, rfl, hb, hg, h1, h2, _⟩
    · exact ⟨none, 0, rfl, Nat.le_refl _, Nat.zero_le _, fun i hi => absurd hi (by simp)⟩
    · exact ⟨_, cap, rfl, h1, h2, fun i hi => absurd hi (by simp)⟩
  · obtain ⟨g, cap, rfl, hb, hg, h1, h2, _⟩ := row_cells h h0
    refine ⟨_, cap, by rw [List.length_map], by rw [List.length_map]; exact h1, h2, fun j hj => ?_⟩
    have hj' : j < ps.length := by simpa using hj
    obtain ⟨g', cap', e, _, _, _, _, c0, c1, c2, c3⟩ := row_cells h hj'
    cases e
    refine ⟨g, 0, rfl, trivial, ?_⟩
    rw [Nat.zero_add, List.getElem_map]
    exact ⟨c0, c1, c2, _, c3, (hw _ (List.getElem_mem hj')).imp fun _ _ _ => trivial⟩
end Go.Proofs.YtdagombmgcnofaaGreatDoor.Ir
