/- Layer 11: the law's Twin; the program's countTexts, anyBelow, Split. -/
import Derived.Test.YtdagombmgcnofaaGreatDoorIt
namespace Go.Proofs.YtdagombmgcnofaaGreatDoor.Ir
open Go.RowKit Go.Maps Go.Proofs.YtdagombmgcnofaaGreatDoor
set_option linter.unusedVariables false
set_option linter.unusedSimpArgs false
/-- Behind an append of an operation to those of the call's own. -/
theorem OwnO.push {B : Nat} {w w' : World} {v v' : Value} {ps : List (Opr × Value)} {x : Opr} {wv : Value} (h : OwnO B w v ps) (hw : w.ownsRow B 3 1 wv x.w.length (numsZ x.w)) (hg : w.grownBy w' v.ownBlock) (ho : w'.ownsRow B 81 4 v' (ps.length + 1) (rowsO ps ++ oprRow (x, wv))) : OwnO B w' v' (ps ++ [(x, wv)]) := by
  have st : ∀ (z : Value) (ws : List Int), w.ownsRow B 3 1 z ws.length (numsZ ws) → w'.ownsRow B 3 1 z ws.length (numsZ ws) := fun z ws hz =>
    own_stays hz fun c hc => hg.block c (own_base hz hc).2 (fun e => own_ne hz h.row (by decide) hc e.symm)
  refine ⟨by rw [List.length_append, rowsO_snoc]; exact ho, fun p hp => ?_⟩
  rcases List.mem_append.1 hp with hp | hp
  · exact st _ _ (h.wid p hp)
  · rw [List.mem_singleton] at hp
    subst hp
    exact st _ _ hw
theorem own_not2 {W : World} {M : Nat} {base : Nat} {e T : TypeId} {size n : Nat} {v : Value} {xs : List Value} {cs : Array Value} {fr : Nat × Nat} (h : W.ownsRow base e size v n xs) (hM : W.heap[M]? = some (.cells cs T fr)) (he : e ≠ T) : v.ownBlock ≠ some M := own_notM h hM he
set_option maxRecDepth 100000 in
set_option maxHeartbeats 4000000 in
theorem twin_law {P : Nat → Prop} (l : List Opr) (v : Value) (w : World) (h : RdO P w v l) (hl : l.length * 56 ≤ 140737488355328) (hlw : ∀ x ∈ l, x.w.length * 8 ≤ 140737488355328) : Calls Tryz.prog 19 #[v] w (MakesL l w) := by
  obtain ⟨i0, hi0, hz0, hz1, hz2⟩ := info_parts infoO
  obtain ⟨pa, cap, rfl, hc1, hc2⟩ := sliceN h
  have HH := Lib.hid h
  have HL := Lib.hid hl
  have HLW := Lib.hid hlw
  obtain ⟨n, hn⟩ : ∃ n, l.length = n := ⟨_, rfl⟩
  have HN := Lib.hid hn
  rw [hn] at HH hc1 ⊢
  have hn62 : n ≤ 9223372036854775807 := by omega
  clear h hl hlw hn hc1
  go_enter Tryz.func19, Tryz.ntmps19
  go_wp2_with fail
  go_loopw [3, 8] (fun s3 i wr => ∃ (k : Nat) (ps : List (Opr × Value)), i = .int .i64 k ∧ k ≤ n ∧ ps.map (·.1) = l.take k ∧ Hid (OwnO w.heap.size wr s3 ps) ∧ Hid (Below w.heap.size w wr)) (fun _ i _ => n - (intOf i).toNat)
  case atStart => exact ⟨0, [], rfl, Nat.zero_le _, by simp, Lib.hid (OwnO.nil _ _), Lib.hid (Below.refl _ _)⟩
  case round =>
    obtain ⟨k, ps, rfl, hk, hq, HO, HB⟩ := hrel
    have HQ := Lib.hid hq
    obtain ⟨p3, c3', rfl⟩ := lenL HO.out.row
    by_cases hlt : k < n
    · have hkl : k < l.length := by rw [HN.out]; exact hlt
      obtain ⟨b, off, rfl, c0, c1, c2, wv, c3, h4⟩ := (HH.out.below HB.out).at_ hkl
      obtain ⟨p4, q4, rfl, u1, u2⟩ := h4.form
      have hql : ps.length = k := by have := congrArg List.length hq; simp at this; omega
      have HTK := Lib.hid (show l.take (k + 1) = l.take k ++ [l[k]] from List.take_succ_eq_append_getElem hkl)
      have hlw := HLW.out _ (List.getElem_mem hkl)
      obtain ⟨x, hx⟩ : ∃ x, l[k] = x := ⟨_, rfl⟩
      rw [hx] at c0 c1 c2 c3 h4 hlw HTK
      have hA : Below wr.heap.size wr (wr.alloc (.cells #[.int .i64 x.k, .int .i64 x.n, .string x.t, .slice p4 x.w.length q4] 81)) := (Below.refl _ _).alloc (Nat.le_refl _) _
      have hBr := HB.out.size
      obtain ⟨v2, W2, hr, ho, hg⟩ := run_twinZ (wr.alloc (.cells #[.int .i64 x.k, .int .i64 x.n, .string x.t, .slice p4 x.w.length q4] 81)) 52 x.w [] (.slice p4 x.w.length q4) (.slice none 0 0) (h4.below hA) (by simpa using hlw) w.heap.size (World.ownsRow_nil _ _ _ _) (Nat.le_trans hBr hA.size)
      rw [List.nil_append] at ho
      obtain ⟨p5, c5, rfl⟩ := lenL ho
      have hB2 : Below wr.heap.size wr W2 := hA.grown hg hA.size (fun r e => by simp [Value.ownBlock] at e)
      have hx2 : W2.heap[wr.heap.size]? = some (.cells #[.int .i64 x.k, .int .i64 x.n, .string x.t, .slice p4 x.w.length q4] 81 (0, 0)) := (hg.block wr.heap.size (by simp) (by simp [Value.ownBlock])).trans (heap_alloc_new wr _)
      have hx3 := heap_setCell_same W2 wr.heap.size 3 _ _ (.slice p5 x.w.length c5) hx2
      have f3 : W2.frozen? ⟨wr.heap.size, 3, none⟩ = false := frozen_of_row W2 _ 3 _ _ hx2
      obtain ⟨z0, z1, z2, z3⟩ : W2.cell? ⟨wr.heap.size, 0, none⟩ = some (.int .i64 x.k) ∧ W2.cell? ⟨wr.heap.size, 1, none⟩ = some (.int .i64 x.n) ∧ W2.cell? ⟨wr.heap.size, 2, none⟩ = some (.string x.t) ∧ W2.cell? ⟨wr.heap.size, 3, none⟩ = some (.slice p4 x.w.length q4) := by
        refine ⟨?_, ?_, ?_, ?_⟩ <;> rw [cell_of_row _ _ _ _ _ _ hx2] <;> rfl
      obtain ⟨W3, hW3⟩ : ∃ W3, W2.setCell ⟨wr.heap.size, 3, none⟩ (.slice p5 x.w.length c5) = W3 := ⟨_, rfl⟩
      rw [hW3] at hx3
      have hB3 : Below wr.heap.size wr W3 := by rw [← hW3]; exact hB2.setCell (p := ⟨wr.heap.size, 3, none⟩) (Nat.le_refl _) _
      obtain ⟨y0, y1, y2, y3⟩ : W3.cell? ⟨wr.heap.size, 0, none⟩ = some (.int .i64 x.k) ∧ W3.cell? ⟨wr.heap.size, 1, none⟩ = some (.int .i64 x.n) ∧ W3.cell? ⟨wr.heap.size, 2, none⟩ = some (.string x.t) ∧ W3.cell? ⟨wr.heap.size, 3, none⟩ = some (.slice p5 x.w.length c5) := by
        refine ⟨?_, ?_, ?_, ?_⟩ <;> rw [cell_of_row _ _ _ _ _ _ hx3] <;> rfl
      have hw3 : W3.ownsRow w.heap.size 3 1 (.slice p5 x.w.length c5) x.w.length (numsZ x.w) := by
        rw [← hW3]
        exact own_stays ho fun c hc => Below.heap_setCell _ _ _ _ (fun e => own_not2 ho hx2 (by decide) (by rw [hc, e]))
      have hA3 : Below W3.heap.size W3 (W3.alloc (.cells #[.int .i64 x.k, .int .i64 x.n, .string x.t, .slice p5 x.w.length c5] 81)) := (Below.refl _ _).alloc (Nat.le_refl _) _
      have HO3 := Lib.hid ((HO.out.below hB3).below hA3)
      have HW3 := Lib.hid (own_below hw3 hA3)
      have HB3 := Lib.hid ((HB.out.trans (hB3.mono hBr)).trans (hA3.mono (Nat.le_trans hBr hB3.size)))
      have L1 := Lib.hid (show ps.length + 1 ≤ maxLen by have := HL.out; have := HN.out; unfold maxLen; omega)
      have L2 := Lib.hid (show (ps.length + 1) * 56 ≤ 140737488355328 by have := HL.out; have := HN.out; omega)
      have L3 := Lib.hid HB3.out.size
      have HR := Lib.hid hr
      have k1 : (k : Int) < n := by omega
      have HLT := Lib.hid hlt
      have HNC := Lib.hid (fun j u hu => cells_newI W3 #[.int .i64 x.k, .int .i64 x.n, .string x.t, .slice p5 x.w.length c5] 81 j u hu)
      clear hx hA hBr hr ho hg hB2 hx2 hx3 hB3 hw3 hA3 h4 u1 u2 hlw hlt hq hql
      go_wp2_with (first
        | (at_builtin; go_loud (refine wpList_app2 rfl _ _ _ rfl rfl rfl HR.out ?_))
        | (at_builtin; go_loud (refine wpList_append_own _ rfl _ _ 44 rfl w.heap.size 81 i0 _ 4 56 Tryz.underlying44 hi0 hz0 hz1 hz2 rfl (by decide) _ _ _ rfl HO3.out.row ⟨W3.heap.size, 0, none⟩ 1 1 (oprRow (x, .slice p5 x.w.length c5)) rfl rfl HNC.out (oprRow_one x _ rfl) L1.out L2.out L3.out ?_); intro v6 w6 hown6 hgrow6 _; have HO6 := Lib.hid (HO3.out.push HW3.out hgrow6 hown6); have HB6 := Lib.hid (HB3.out.grown hgrow6 L3.out (fun r e => (own_base HO3.out.row e).1)); clear hown6 hgrow6))
      go_wp2_with fail
      go_roundw
      case measure => have := HLT.out; simp [intOf]; omega
      case rel => exact ⟨k + 1, ps ++ [(x, .slice p5 x.w.length c5)], by go_num, HLT.out, by rw [List.map_append, HQ.out, HTK.out]; rfl, HO6, HB6⟩
    · obtain rfl : k = n := by omega
      have hz1 : ¬ (k : Int) < k := by omega
      clear hlt
      go_wp2_with fail
      go_ret
      exact ⟨_, ps, rfl, HO.out, by rw [hq, ← HN.out, List.take_length], HB.out⟩
end Go.Proofs.YtdagombmgcnofaaGreatDoor.Ir
