/- Layer 11: a strings.Builder that is the last field of what is lowered: what its methods do. -/
import Derived.Test.YtdagombmgcnofaaGreatDoorIb
import Derived.Test.YtdagombmgcnofaaGreatDoorTB
import Derived.Lib.FrozenHead2
import Derived.Lib.OthersKept
import Derived.Lib.UnsafeStr
import Derived.BigRegion
import Derived.Shelf.Strings.BuilderF
namespace Go.Proofs.YtdagombmgcnofaaGreatDoor.Ir
open Go.RowKit Go.Maps Go.Proofs.YtdagombmgcnofaaGreatDoor
set_option linter.unusedVariables false
/-- The block of what is lowered: the text so far lies in its last field. -/
def LAt (B M : Nat) (sh dv mv ov pv : Value) (l : List UInt8) (W : World) : Prop :=
  B ≤ M ∧ ∃ bv, W.heap[M]? = some (.cells #[sh, dv, mv, ov, pv, bv] 218 (0, 0)) ∧ W.ownsRowF B 5 1 bv l.length (Lib.byteCells l) ∧ bv.ownBlock ≠ some M
def PtrOk (M : Nat) (pv : Value) : Prop := pv = .pointer none ∨ pv = .pointer (some ⟨M, 4, none⟩)
theorem infoB6 : (Tryz.prog.info? 169).map (·.size) = some 2 := by kernel_rfl
theorem infoU8 : (Tryz.prog.info? 5).map (fun i => (i.zero, i.size, i.bytes)) = some (some (.int .u8 0), 1, 1) := by kernel_rfl
theorem liesIn : liesAt Tryz.prog Tryz.prog.depth 218 (6 / Tryz.prog.cellsOf 218) 4 169 1 = true := by kernel_rfl
section
variable {B M : Nat} {sh dv mv ov pv : Value} {l : List UInt8} {W : World}
theorem LAt.lt (h : LAt B M sh dv mv ov pv l W) : M < W.heap.size := by
  obtain ⟨_, bv, hb, _⟩ := h
  exact (Array.getElem?_eq_some_iff.1 hb).1
theorem LAt.at4 (h : LAt B M sh dv mv ov pv l W) : W.cell? ⟨M, 4, none⟩ = some pv := by
  obtain ⟨_, bv, hb, _⟩ := h
  rw [Lib.cell_of_heap hb]; rfl
theorem LAt.shape (h : LAt B M sh dv mv ov pv l W) : W.shape? M = some (218, 6) := by
  obtain ⟨_, bv, hb, _⟩ := h
  simp [World.shape?, hb]
theorem LAt.free (h : LAt B M sh dv mv ov pv l W) (j : Nat) : W.frozen? ⟨M, j, none⟩ = false := by
  obtain ⟨_, bv, hb, _⟩ := h
  exact Lib.frozen_of_heap hb j
theorem LAt.below (h : LAt B M sh dv mv ov pv l W) {W' : World} (hb : Below W.heap.size W W') : LAt B M sh dv mv ov pv l W' := by
  have hl := h.lt
  obtain ⟨h1, bv, h2, h3, h4⟩ := h
  refine ⟨h1, bv, (hb.block M hl).trans h2, ?_, h4⟩
  refine ⟨h3.1, ?_⟩
  rcases h3.2 with h0 | ⟨g, cap, cur, fz, e1, e2, e3, r⟩
  · exact .inl h0
  · exact .inr ⟨g, cap, cur, fz, e1, e2, (hb.block g (Array.getElem?_eq_some_iff.1 e3).1).trans e3, r⟩
theorem LAt.froze {g cap : Nat} (hB : B ≤ M) (hb : W.heap[M]? = some (.cells #[sh, dv, mv, ov, pv, .slice (some ⟨g, 0, none⟩) l.length cap] 218 (0, 0))) (hown : W.ownsRowF B 5 1 (.slice (some ⟨g, 0, none⟩) l.length cap) l.length (Lib.byteCells l)) (hgb : g ≠ M) : LAt B M sh dv mv ov pv l (W.freeze ⟨g, 0, none⟩ l.length) := by
  have hne : (Value.slice (some ⟨g, 0, none⟩) l.length cap).ownBlock ≠ some M := by simp [Value.ownBlock]; exact hgb
  unfold World.freeze
  split
  · exact ⟨hB, _, hb, hown, hne⟩
  · rename_i hn0
    refine ⟨hB, _, ?_, ⟨hown.1, ?_⟩, hne⟩
    · simp only [Array.getElem?_modify]
      rw [if_neg hgb]
      exact hb
    · rcases hown.2 with ⟨hv, _⟩ | ⟨g', cap', cur, fz, hv, hbg, hg, hfz, rest⟩
      · cases hv
      · injection hv with ha _ hcap
        injection ha with ha
        injection ha with hgg _ _
        subst hgg
        subst hcap
        obtain ⟨lo, hi⟩ := fz
        refine .inr ⟨g, _, cur, (if lo == hi then (0, 0 + l.length) else (min lo 0, max hi (0 + l.length))), rfl, hbg, ?_, ?_, rest⟩
        · simp [Array.getElem?_modify, hg]
        · simp only at hfz
          split <;> simp <;> omega
theorem LAt.used (h : LAt B M sh dv mv ov pv l W) (u : Value) : LAt B M sh dv mv ov u l (W.setCell ⟨M, 4, none⟩ u) := by
  obtain ⟨h1, bv, h2, h3, h4⟩ := h
  refine ⟨h1, bv, ?_, ?_, h4⟩
  · simp [World.setCell, Array.getElem?_modify, h2]
  · exact h3.kept (row := some M) ⟨rfl, rfl, rfl, by simp [World.setCell], fun k _ hk => Below.heap_setCell _ _ _ _ (fun e => hk (by simp [e]))⟩ (Or.inr h4)
end
/-- A call has left the text l there, and all else but rows of bytes as it was. -/
def Built6 (B M : Nat) (sh dv mv ov pv : Value) (l : List UInt8) (w w' : World) : Prop := LAt B M sh dv mv ov pv l w' ∧ Below B w w' ∧ Lib.OthersKept 5 (some M) w w'
def Wrote6 (v : Value) (B M : Nat) (sh dv mv ov pv : Value) (l : List UInt8) (w : World) (e : Ending) (w' : World) : Prop := e = .returned v ∧ Built6 B M sh dv mv ov pv l w w'
set_option maxRecDepth 100000 in
set_option maxHeartbeats 1000000 in
theorem copy6_pro (B M : Nat) (sh dv mv ov pv : Value) (l : List UInt8) (w : World) (h : LAt B M sh dv mv ov pv l w) (hp : PtrOk M pv) :
    Calls Tryz.prog 128 #[.pointer (some ⟨M, 4, none⟩)] w (Wrote6 (.tuple #[]) B M sh dv mv ov (.pointer (some ⟨M, 4, none⟩)) l w) := by
  obtain ⟨j, hj, hjs⟩ := Option.map_eq_some_iff.1 infoB6
  have h0 := h.at4
  rcases hp with rfl | rfl
  · have hsh := h.shape
    have hfz := h.free 4
    have HU := Lib.hid (h.used (.pointer (some ⟨M, 4, none⟩)))
    have HG := Lib.hid h.1
    clear h
    go_enter Tryz.func128, Tryz.ntmps128
    go_wp2
    rw [Lib.run_to_unsafe w ⟨M, 4, none⟩ Tryz.underlying166 Tryz.underlying220 hj (by rw [hjs]; decide) hsh (show 4 < 6 by decide)]
    simp only [Result.andThen]
    rw [Oper.upon_value]
    go_wp2
    rw [run_callFunc_extern Tryz.func170 (by kernel_rfl) (by kernel_rfl) (by kernel_rfl) (e := Extern.AbiNoEscape.same) (by kernel_rfl)]
    rw [Lib.run_noEscape]
    simp only [Result.andThen]
    rw [Oper.upon_value]
    go_wp2
    rw [Lib.run_from_unsafe w ⟨M, 4, none⟩ Tryz.underlying220 Tryz.underlying166 hj hsh liesIn]
    simp only [Result.andThen]
    rw [Oper.upon_value]
    go_wp2
    go_end0
    exact ⟨rfl, HU.out, (Below.refl B w).setCell (p := ⟨M, 4, none⟩) HG.out _, (Lib.OthersKept.refl _ _ w).setCell ⟨M, 4, none⟩ rfl _⟩
  · have HU := Lib.hid h
    clear h
    go_enter Tryz.func128, Tryz.ntmps128
    go_wp2
    rw [Lib.run_neq_ptr_same w _ Tryz.underlying166 hj]
    go_wp2
    go_end0
    exact ⟨rfl, HU.out, Below.refl B _, Lib.OthersKept.refl _ _ _⟩
theorem put6 {B M : Nat} {sh dv mv ov pv v v' : Value} {l t : List UInt8} {w w1 w2 : World} (h1 : B ≤ M) (hbk : w1.heap[M]? = some (.cells #[sh, dv, mv, ov, pv, v] 218 (0, 0)))
    (hown : w1.ownsRowF B 5 1 v l.length (Lib.byteCells l)) (hne : v.ownBlock ≠ some M) (hb1 : Below B w w1) (hk1 : Lib.OthersKept 5 (some M) w w1)
    (hown' : w2.ownsRowF B 5 1 v' (l ++ t).length (Lib.byteCells (l ++ t))) (hgrow : w1.grownBy w2 v.ownBlock) :
    w2.heap[M]? = some (.cells #[sh, dv, mv, ov, pv, v] 218 (0, 0)) ∧ Built6 B M sh dv mv ov pv (l ++ t) w (w2.setCell ⟨M, 5, none⟩ v') := by
  have hlt : M < w1.heap.size := (Array.getElem?_eq_some_iff.1 hbk).1
  have hb2 : w2.heap[M]? = some (.cells #[sh, dv, mv, ov, pv, v] 218 (0, 0)) := by
    rw [hgrow.block M hlt (fun e => hne e.symm)]
    exact hbk
  have hne' := Lib.ownBlock_neF hown' hb2 (by decide)
  refine ⟨hb2, ⟨h1, v', ?_, ?_, hne'⟩, ?_, (hk1.grown hgrow (Lib.ownsRowF_kind hown)).setCell ⟨M, 5, none⟩ rfl _⟩
  · simp [World.setCell, Array.getElem?_modify, hb2]
  · exact hown'.kept (row := some M) ⟨rfl, rfl, rfl, by simp [World.setCell], fun k _ hk => Below.heap_setCell _ _ _ _ (fun e => hk (by simp [e]))⟩ (Or.inr hne')
  · exact (hb1.grown hgrow (by have := hb1.size; omega) (fun k hk => (hown.lt k hk).1)).setCell (p := ⟨M, 5, none⟩) h1 _
theorem row_form6 {B : Nat} {v : Value} {n : Nat} {xs : List Value} {w : World} (h : w.ownsRowF B 5 1 v n xs) : ∃ a c, v = .slice a n c := by
  rcases h.2 with ⟨hv, h0⟩ | ⟨g, cap, cur, fz, hv, _⟩
  · exact ⟨none, 0, by rw [hv, h0]⟩
  · exact ⟨_, _, hv⟩
set_option maxRecDepth 100000 in
set_option maxHeartbeats 2000000 in
theorem write6_pro (B M : Nat) (sh dv mv ov pv : Value) (l : List UInt8) (t : ByteArray) (w : World) (h : LAt B M sh dv mv ov pv l w) (hp : PtrOk M pv) (hlen : l.length + t.size ≤ 140737488355328) (hBw : B ≤ w.heap.size) :
    Calls Tryz.prog 77 #[.pointer (some ⟨M, 4, none⟩), .string t] w (Wrote6 (.tuple #[.int .i64 t.size, .nilIface]) B M sh dv mv ov (.pointer (some ⟨M, 4, none⟩)) (l ++ t.data.toList) w) := by
  obtain ⟨i0, hi, hz0, hz1, hz2⟩ := info_parts infoU8
  go_enter Tryz.func77, Tryz.ntmps77
  go_wp2_with fail
  refine (copy6_pro B M sh dv mv ov pv l _ h hp).mono ?_
  rintro e w1 ⟨rfl, ⟨hB, v, hbk, hown, hne⟩, hb1, hk1⟩
  have c1 : w1.cell? ⟨M, 5, none⟩ = some v := by rw [Lib.cell_of_heap hbk]; rfl
  have K := Lib.hid (fun (w2 : World) (v' : Value) => put6 (v' := v') (t := t.data.toList) (w2 := w2) hB hbk hown hne hb1 hk1)
  have HO := Lib.hid hown
  have L1 := Lib.hid (show l.length + t.size ≤ maxLen by unfold maxLen; omega)
  have L2 := Lib.hid (show (l.length + t.size) * 1 ≤ 140737488355328 by omega)
  have L3 := Lib.hid (show B ≤ w1.heap.size by have := hb1.size; omega)
  clear hlen hBw hbk hown hne hb1 hk1 h hp
  go_wp2_with (at_builtin; go_loud (refine Lib.wpList_append_own_stringF _ rfl _ _ 167 9 rfl B 5 i0 Tryz.underlying167 Tryz.underlying9 hi hz0 hz1 hz2 _ _ _ rfl HO.out t rfl ?c3 ?c4 ?c5 ?_))
  case c3 => exact L1.out
  case c4 => have := L2.out; omega
  case c5 => exact L3.out
  intro v' w2 hown' hgrow _
  obtain ⟨g, cap, rfl⟩ := row_form6 hown'
  obtain ⟨hb2, hbt⟩ := K.out w2 _ (by rw [Lib.byteCells_append, List.length_append, ← Lib.strCells_eq]; simpa using hown') hgrow
  have d4 : w2.cell? ⟨M, 4, none⟩ = some (.pointer (some ⟨M, 4, none⟩)) := by rw [Lib.cell_of_heap hb2]; rfl
  have d1 : w2.cell? ⟨M, 5, none⟩ = some v := by rw [Lib.cell_of_heap hb2]; rfl
  have f1 : w2.frozen? ⟨M, 5, none⟩ = false := Lib.frozen_of_heap hb2 5
  have HT := Lib.hid hbt
  clear hbt hown' hgrow hb2
  go_wp2_with fail
  go_ret2
  exact ⟨rfl, HT.out⟩
set_option maxRecDepth 100000 in
theorem len6_pro (B M : Nat) (sh dv mv ov pv : Value) (l : List UInt8) (w : World) (h : LAt B M sh dv mv ov pv l w) :
    Calls Tryz.prog 196 #[.pointer (some ⟨M, 4, none⟩)] w fun e w' => e = .returned (.int .i64 (l.length : Nat)) ∧ w' = w := by
  obtain ⟨hB, v, hbk, hown, hne⟩ := h
  obtain ⟨ao, cap, rfl⟩ := row_form6 hown
  have c1 : w.cell? ⟨M, 5, none⟩ = some (.slice ao l.length cap) := by rw [Lib.cell_of_heap hbk]; rfl
  obtain ⟨n, hn⟩ : ∃ n, l.length = n := ⟨_, rfl⟩
  rw [hn] at c1 ⊢
  clear hbk hown hne hn
  go_enter Tryz.func196, Tryz.ntmps196
  go_wp2_with fail
  go_ret
  exact ⟨rfl, rfl⟩
set_option maxRecDepth 100000 in
set_option maxHeartbeats 1000000 in
theorem reset6_pro (B M : Nat) (sh dv mv ov pv : Value) (l : List UInt8) (w : World) (h : LAt B M sh dv mv ov pv l w) :
    Calls Tryz.prog 197 #[.pointer (some ⟨M, 4, none⟩)] w (Wrote6 (.tuple #[]) B M sh dv mv ov (.pointer none) [] w) := by
  obtain ⟨hB, v, hbk, hown, hne⟩ := h
  have c0 : w.cell? ⟨M, 4, none⟩ = some pv := by rw [Lib.cell_of_heap hbk]; rfl
  have c1 : w.cell? ⟨M, 5, none⟩ = some v := by rw [Lib.cell_of_heap hbk]; rfl
  have f0 : w.frozen? ⟨M, 4, none⟩ = false := Lib.frozen_of_heap hbk 4
  have f1 : w.frozen? ⟨M, 5, none⟩ = false := Lib.frozen_of_heap hbk 5
  have HF := Lib.hid (show Built6 B M sh dv mv ov (.pointer none) [] w ((w.setCell ⟨M, 4, none⟩ (.pointer none)).setCell ⟨M, 5, none⟩ (.slice none 0 0)) from
    ⟨⟨hB, .slice none 0 0, by simp [World.setCell, Array.getElem?_modify, hbk], ⟨rfl, .inl ⟨rfl, rfl⟩⟩, by simp [Value.ownBlock]⟩, ((Below.refl B w).setCell (p := ⟨M, 4, none⟩) hB _).setCell (p := ⟨M, 5, none⟩) hB _, ((Lib.OthersKept.refl _ _ w).setCell ⟨M, 4, none⟩ rfl _).setCell ⟨M, 5, none⟩ rfl _⟩)
  clear hbk hown hne
  go_enter Tryz.func197, Tryz.ntmps197
  go_wp2_with fail
  go_end0
  exact ⟨rfl, HF.out⟩
set_option maxRecDepth 100000 in
set_option maxHeartbeats 2000000 in
theorem string6_pro (B M : Nat) (sh dv mv ov pv : Value) (l : List UInt8) (w : World) (h : LAt B M sh dv mv ov pv l w) (h0 : l ≠ []) :
    Calls Tryz.prog 78 #[.pointer (some ⟨M, 4, none⟩)] w (Wrote6 (.string ⟨l.toArray⟩) B M sh dv mv ov pv l w) := by
  obtain ⟨hB, v, hbk, hown, hne⟩ := h
  have hl0 : l.length ≠ 0 := by simpa using h0
  have HO := Lib.hid hown
  obtain ⟨g, cap, cur, fz, rfl, hbg, hg, hfz, hnc, hcm, hcs, htake⟩ : ∃ g cap cur fz, v = .slice (some ⟨g, 0, none⟩) l.length cap ∧ B ≤ g ∧ w.heap[g]? = some (.cells cur 5 fz) ∧ fz.2 ≤ l.length * 1 ∧ l.length ≤ cap ∧ cap ≤ maxLen ∧ cur.size = cap * 1 ∧ cur.toList.take (l.length * 1) = Lib.byteCells l := by
    rcases hown.2 with ⟨_, hz⟩ | ⟨g, cap, cur, fz, hv, r⟩
    · exact absurd hz hl0
    · exact ⟨g, cap, cur, fz, hv, r⟩
  have hgM : g ≠ M := fun e => hne (by simp [Value.ownBlock, e])
  have c1 : w.drew.cell? ⟨M, 5, none⟩ = some (.slice (some ⟨g, 0, none⟩) l.length cap) := by
    have : w.drew.heap[M]? = some (.cells #[sh, dv, mv, ov, pv, .slice (some ⟨g, 0, none⟩) l.length cap] 218 (0, 0)) := hbk
    rw [Lib.cell_of_heap this]; rfl
  have hSD : (Builtin.unsafeSliceData_ #[167] 248 #[.slice (some ⟨g, 0, none⟩) l.length cap]).run Tryz.prog w.drew = .ok (.pointer (some ⟨g, 0, none⟩)) w.drew :=
    Lib.run_unsafeSliceData_row _ _ _ _ _ _ (by omega)
  have hUS : (Builtin.unsafeString_ #[248, 3] 9 #[.pointer (some ⟨g, 0, none⟩), .int .i64 l.length]).run Tryz.prog w.drew = .ok (.string ⟨l.toArray⟩) (w.drew.freeze ⟨g, 0, none⟩ l.length) := by
    refine Lib.run_unsafeString_row w.drew 248 3 9 5 Tryz.underlying248 (by kernel_rfl) g cur.size (by have hg' : w.drew.heap[g]? = some (.cells cur 5 fz) := hg; simp [World.shape?, hg']) l h0 (by omega) (by unfold maxLen at hcm; omega) ?_
    intro j x hx
    exact hown.cells (g := g) rfl j (.int .u8 x.toNat) (by simp [Lib.byteCells, hx])
  have HK := Lib.hid (show Built6 B M sh dv mv ov pv l w (w.drew.freeze ⟨g, 0, none⟩ l.length) from
    ⟨LAt.froze (W := w.drew) hB hbk hown hgM, Lib.below_freeze (Below.drew (Below.refl B w)) (p := ⟨g, 0, none⟩) hbg _, (Lib.OthersKept.refl _ _ w).drew.freeze ⟨g, 0, none⟩ _ ⟨cur, fz, hg⟩⟩)
  have mixed : Tryz.prog.follows .mixedOrders = true := by kernel_rfl
  have hSD2 := Lib.hid hSD
  clear hbk hown hne
  go_enter Tryz.func78, Tryz.ntmps78
  go_wp2
  go_region_o
  all_goals (go_wp2; go_ret; exact ⟨rfl, HK.out⟩)
end Go.Proofs.YtdagombmgcnofaaGreatDoor.Ir
