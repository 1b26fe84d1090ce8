/- Layer 11: what is lowered so far, in memory; the program's put. -/
import Derived.Test.YtdagombmgcnofaaGreatDoorIj
import Derived.Test.YtdagombmgcnofaaGreatDoorIf0
import Derived.Test.YtdagombmgcnofaaGreatDoorIk
import Derived.Deep.RegionLaw
namespace Go.Proofs.YtdagombmgcnofaaGreatDoor.Ir
open Go.RowKit Go.Maps Go.Proofs.YtdagombmgcnofaaGreatDoor
set_option linter.unusedVariables false
/-- The operations so far, and the text that is not put down yet. -/
structure Ls where
  ops : List Opr
  t : List UInt8
def txtOp (t : List UInt8) : Opr := ⟨1, 0, ⟨t.toArray⟩, []⟩
def putL (s : Ls) (x : Opr) : Ls := ⟨(if s.t = [] then s.ops else s.ops ++ [txtOp s.t]) ++ [x], []⟩
theorem put_len (s : Ls) (x : Opr) : (putL s x).ops.length ≤ s.ops.length + 2 := by
  unfold putL
  dsimp only
  split <;> simp
def LowAt (B M K : Nat) (sv dv ov pv : Value) (dir : List Nd) (ps : List (Opr × Value)) (t : List UInt8) (W : World) : Prop :=
  PtrOk M pv ∧ LAt B M sv dv (.map (some K)) ov pv t W ∧ OwnO B W ov ps ∧ FMap W K dir
def Low (B M K : Nat) (sv dv : Value) (dir : List Nd) (s : Ls) (W : World) : Prop :=
  ∃ ov pv ps, LowAt B M K sv dv ov pv dir ps s.t W ∧ ps.map (·.1) = s.ops
section
variable {B M K : Nat} {sv dv ov pv : Value} {dir : List Nd} {ps : List (Opr × Value)} {t : List UInt8} {W W' : World}
theorem LowAt.below (h : LowAt B M K sv dv ov pv dir ps t W) (hb : Below W.heap.size W W') : LowAt B M K sv dv ov pv dir ps t W' := ⟨h.1, h.2.1.below hb, h.2.2.1.below hb, h.2.2.2.below hb⟩
theorem LowAt.drew (h : LowAt B M K sv dv ov pv dir ps t W) : LowAt B M K sv dv ov pv dir ps t W.drew := ⟨h.1, h.2.1, ⟨h.2.2.1.row, h.2.2.1.wid⟩, h.2.2.2.block rfl⟩
theorem Low.below {s : Ls} (h : Low B M K sv dv dir s W) (hb : Below W.heap.size W W') : Low B M K sv dv dir s W' := by
  obtain ⟨ov, pv, ps, h1, h2⟩ := h
  exact ⟨ov, pv, ps, h1.below hb, h2⟩
theorem own_others {base : Nat} {e : TypeId} {size n : Nat} {v : Value} {xs : List Value} (h : W.ownsRow base e size v n xs) (hk : Lib.OthersKept 5 (some M) W W') (he : e ≠ 5) (hM : v.ownBlock ≠ some M) : W'.ownsRow base e size v n xs := by
  refine ⟨h.1, ?_⟩
  rcases h.2 with h0 | ⟨g, cap, cur, rfl, h2, h3, h4⟩
  · exact .inl h0
  · refine .inr ⟨g, cap, cur, rfl, h2, hk g _ h3 (fun e => hM (by simp [Value.ownBlock]; exact Option.some.inj e)) (fun c fz e' => ?_), h4⟩
    injection e' with _ e'
    exact he e'
theorem fmap_others (h : FMap W K dir) (hk : Lib.OthersKept 5 (some M) W W') (hM : K ≠ M) : FMap W' K dir := by
  have h' := h
  obtain ⟨n, D, _, ⟨es, ck, h1, _⟩, _⟩ := h'
  refine h.block ?_
  rw [h1]
  exact hk K _ h1 (fun e => hM (Option.some.inj e)) (fun c fz e' => by cases e')
theorem own_notM {base : Nat} {e T : TypeId} {size n : Nat} {v : Value} {xs : List Value} {cs : Array Value} {fr : Nat × Nat} (h : W.ownsRow base e size v n xs) (hM : W.heap[M]? = some (.cells cs T fr)) (he : e ≠ T) : v.ownBlock ≠ some M := by
  intro ec
  rcases h.2 with ⟨rfl, _⟩ | ⟨g, cap, cur, rfl, _, hg, _⟩
  · simp [Value.ownBlock] at ec
  · obtain rfl : g = M := by simpa [Value.ownBlock] using ec
    rw [hM] at hg
    injection hg with e1
    injection e1 with _ e1
    exact he e1.symm
theorem own_notMap {base : Nat} {e : TypeId} {size n : Nat} {v : Value} {xs : List Value} (h : W.ownsRow base e size v n xs) (hK : FMap W K dir) : v.ownBlock ≠ some K := by
  intro ec
  obtain ⟨_, D, _, ⟨es, ck, h1, _⟩, _⟩ := hK
  rcases h.2 with ⟨rfl, _⟩ | ⟨g, cap, cur, rfl, _, hg, _⟩
  · simp [Value.ownBlock] at ec
  · obtain rfl : g = K := by simpa [Value.ownBlock] using ec
    rw [h1] at hg
    cases hg
theorem LowAt.apart (h : LowAt B M K sv dv ov pv dir ps t W) : K ≠ M ∧ ov.ownBlock ≠ some M ∧ ∀ p ∈ ps, p.2.ownBlock ≠ some M := by
  obtain ⟨_, ⟨_, bv, hM, _⟩, hO, hK⟩ := h
  refine ⟨fun e => ?_, own_notM hO.row hM (by decide), fun p hp => own_notM (hO.wid p hp) hM (by decide)⟩
  obtain ⟨_, D, _, ⟨es, ck, h1, _⟩, _⟩ := hK
  rw [e, hM] at h1
  cases h1
/-- Behind a call of the builder's. -/
theorem LowAt.built {pv' : Value} {t' : List UInt8} (h : LowAt B M K sv dv ov pv dir ps t W) (hb : Built6 B M sv dv (.map (some K)) ov pv' t' W W') (hp : PtrOk M pv') : LowAt B M K sv dv ov pv' dir ps t' W' := by
  obtain ⟨a1, a2, a3⟩ := h.apart
  exact ⟨hp, hb.1, ⟨own_others h.2.2.1.row hb.2.2 (by decide) a2, fun p hp => own_others (h.2.2.1.wid p hp) hb.2.2 (by decide) (a3 p hp)⟩, fmap_others h.2.2.2 hb.2.2 a1⟩
/-- Behind an append to the operations: the block, and all else, as it was. -/
theorem LowAt.grown {v' : Value} {x : Opr} {wv : Value} (h : LowAt B M K sv dv ov pv dir ps t W) (hw : W.ownsRow B 3 1 wv x.w.length (numsZ x.w)) (hg : W.grownBy W' ov.ownBlock) (hown : W'.ownsRow B 81 4 v' (ps.length + 1) (rowsO ps ++ oprRow (x, wv))) :
    LAt B M sv dv (.map (some K)) ov pv t W' ∧ OwnO B W' v' (ps ++ [(x, wv)]) ∧ FMap W' K dir := by
  obtain ⟨hp, hL, hO, hK⟩ := h
  have hL0 := hL
  obtain ⟨hB, bv, hM, hF, hne⟩ := hL
  have nM := own_notM hO.row hM (by decide)
  have nK := own_notMap hO.row hK
  refine ⟨⟨hB, bv, (hg.block M (Array.getElem?_eq_some_iff.1 hM).1 (fun e => nM e.symm)).trans hM, hF.kept hg ?_, hne⟩, ⟨?_, ?_⟩, hK.block (hg.block K hK.lt (fun e => nK e.symm))⟩
  · rcases hO.row.2 with ⟨rfl, _⟩ | ⟨g, cap, cur, rfl, _, hgO, _⟩
    · rcases hF.2 with ⟨rfl, _⟩ | ⟨g2, cap2, cur2, fz2, rfl, _⟩
      · exact .inl rfl
      · right; simp [Value.ownBlock]
    · right
      intro e
      rcases hF.2 with ⟨rfl, _⟩ | ⟨g2, cap2, cur2, fz2, rfl, _, hg2, _⟩
      · simp [Value.ownBlock] at e
      · obtain rfl : g2 = g := by simpa [Value.ownBlock] using e
        rw [hgO] at hg2
        injection hg2 with e1
        injection e1 with _ e1
        exact absurd e1 (by decide)
  · rw [List.length_append, rowsO_snoc]
    exact hown
  · have st : ∀ (z : Value) (ws : List Int), W.ownsRow B 3 1 z ws.length (numsZ ws) → W'.ownsRow B 3 1 z ws.length (numsZ ws) := fun z ws hz =>
      own_stays hz fun c hc => hg.block c (own_base hz hc).2 (fun e => own_ne hz hO.row (by decide) hc e.symm)
    intro p hp
    rcases List.mem_append.1 hp with hp | hp
    · exact st _ _ (hO.wid p hp)
    · rw [List.mem_singleton] at hp
      subst hp
      exact st _ _ hw
/-- Behind the store of the longer list. -/
theorem LowAt.stored {v' : Value} {ps' : List (Opr × Value)} (hp : PtrOk M pv) (hL : LAt B M sv dv (.map (some K)) ov pv t W) (hO : OwnO B W v' ps') (hK : FMap W K dir) : LowAt B M K sv dv v' pv dir ps' t (W.setCell ⟨M, 3, none⟩ v') := by
  have h0 : LowAt B M K sv dv v' pv dir ps' t W ∨ True := .inr trivial
  obtain ⟨hB, bv, hM, hF, hne⟩ := hL
  have nM : ∀ {e : TypeId} {size n : Nat} {z : Value} {xs : List Value}, W.ownsRow B e size z n xs → e ≠ 218 → (W.setCell ⟨M, 3, none⟩ v').ownsRow B e size z n xs := fun hz he =>
    own_stays hz fun c hc => Below.heap_setCell _ _ _ _ (fun e => own_notM hz hM he (by rw [hc, e]))
  have kM : K ≠ M := fun e => by
    obtain ⟨_, D, _, ⟨es, ck, h1, _⟩, _⟩ := hK
    rw [e, hM] at h1
    cases h1
  refine ⟨hp, ⟨hB, bv, by simp [World.setCell, Array.getElem?_modify, hM], hF.kept (row := some M) ⟨rfl, rfl, rfl, by simp [World.setCell], fun k _ hk => Below.heap_setCell _ _ _ _ (fun e => hk (by simp [e]))⟩ (Or.inr hne), hne⟩, ⟨nM hO.row (by decide), fun p hp => nM (hO.wid p hp) (by decide)⟩, hK.block (Below.heap_setCell _ _ _ _ kM)⟩
theorem LAt.cell3 {mv : Value} (h : LAt B M sv dv mv ov pv t W) : W.cell? ⟨M, 3, none⟩ = some ov ∧ W.frozen? ⟨M, 3, none⟩ = false := by
  obtain ⟨hB, bv, hM, _⟩ := h
  exact ⟨by rw [Lib.cell_of_heap hM]; rfl, Lib.frozen_of_heap hM 3⟩
theorem LowAt.cell3 (h : LowAt B M K sv dv ov pv dir ps t W) : W.cell? ⟨M, 3, none⟩ = some ov ∧ W.frozen? ⟨M, 3, none⟩ = false ∧ M < W.heap.size ∧ B ≤ M := by
  obtain ⟨_, ⟨hB, bv, hM, _⟩, _⟩ := h
  exact ⟨by rw [Lib.cell_of_heap hM]; rfl, Lib.frozen_of_heap hM 3, (Array.getElem?_eq_some_iff.1 hM).1, hB⟩
end
/-- What a call leaves as it was: all but the block of what is lowered, rows of operations and rows of bytes. -/
def Kp (M : Nat) (w w' : World) : Prop := ∀ k o, w.heap[k]? = some o → k ≠ M → (∀ c fz, o ≠ .cells c 81 fz) → (∀ c fz, o ≠ .cells c 5 fz) → w'.heap[k]? = some o
theorem Kp.below {M : Nat} {w w' : World} (h : Below w.heap.size w w') : Kp M w w' := fun k o hk _ _ _ => (h.block k (Array.getElem?_eq_some_iff.1 hk).1).trans hk
theorem Kp.trans {M : Nat} {a b c : World} (h : Kp M a b) (k : Kp M b c) : Kp M a c := fun i o hi hm h1 h2 => k i o (h i o hi hm h1 h2) hm h1 h2
theorem Kp.set {M : Nat} {a w : World} (h : Kp M a w) (j : Nat) (u : Value) : Kp M a (w.setCell ⟨M, j, none⟩ u) := fun i o hi hm h1 h2 => (Below.heap_setCell _ _ _ _ hm).trans (h i o hi hm h1 h2)
theorem Kp.grown {M B n : Nat} {a w w' : World} {v : Value} {xs : List Value} (h : Kp M a w) (ho : w.ownsRow B 81 4 v n xs) (hg : w.grownBy w' v.ownBlock) : Kp M a w' := fun i o hi hm h1 h2 => by
  have h3 := h i o hi hm h1 h2
  refine (hg.block i (Array.getElem?_eq_some_iff.1 h3).1 (fun e => ?_)).trans h3
  rcases ho.2 with ⟨rfl, _⟩ | ⟨g, cap, cur, rfl, _, hgO, _⟩
  · simp [Value.ownBlock] at e
  · obtain rfl : i = g := by simpa [Value.ownBlock] using e
    rw [hgO] at h3
    exact h1 _ _ (Option.some.inj h3).symm
theorem Kp.others {M : Nat} {a w w' : World} (h : Kp M a w) (hk : Lib.OthersKept 5 (some M) w w') : Kp M a w' := fun i o hi hm h1 h2 => hk i o (h i o hi hm h1 h2) (fun e => hm (Option.some.inj e)) h2
def lowP (B M K : Nat) (sv dv : Value) (dir : List Nd) (s : Ls) (v : Value) (w : World) (e : Ending) (w' : World) : Prop := e = .returned v ∧ Low B M K sv dv dir s w' ∧ Below B w w' ∧ Kp M w w'
theorem cells_newI (w : World) (cs : Array Value) (t : TypeId) (j : Nat) (u : Value) (h : cs.toList[j]? = some u) : (w.alloc (.cells cs t)).cell? ((⟨w.heap.size, 0, none⟩ : Addr).add j) = some u := by
  rw [Addr.add_lit, Nat.zero_add, cell_of_row _ _ _ _ _ _ (heap_alloc_new w _)]
  rw [← Array.getElem?_toList]
  exact h
theorem oprRow_one (x : Opr) (wv : Value) (h : wv.oneCell' = true) : ∀ u ∈ oprRow (x, wv), u.oneCell' = true := by
  intro u hu
  simp only [oprRow, List.mem_cons, List.not_mem_nil, or_false] at hu
  rcases hu with rfl | rfl | rfl | rfl
  · rfl
  · rfl
  · rfl
  · exact h
set_option maxRecDepth 100000 in
set_option maxHeartbeats 4000000 in
/-- An operation is put down where no text waits. -/
theorem put0_pro (B M K : Nat) (sv dv : Value) (dir : List Nd) (ops : List Opr) (x : Opr) (wv : Value) (w : World) (h : Low B M K sv dv dir ⟨ops, []⟩ w) (hw : w.ownsRow B 3 1 wv x.w.length (numsZ x.w)) (hl : ops.length ≤ 1000000000) :
    Calls Tryz.prog 159 #[.pointer (some ⟨M, 0, none⟩), oprVal x wv] w (lowP B M K sv dv dir ⟨ops ++ [x], []⟩ (.tuple #[]) w) := by
  obtain ⟨i0, hi0, hz0, hz1, hz2⟩ := info_parts infoO
  obtain ⟨ov, pv, ps, hL, hps⟩ := h
  dsimp only at hL hps
  obtain ⟨pw, cw, rfl⟩ := lenL hw
  have hpl : ps.length = ops.length := by rw [← hps, List.length_map]
  obtain ⟨c3, f3, hlt, hBM⟩ := hL.cell3
  have hA : Below w.heap.size w (w.alloc (.cells #[.int .i64 x.k, .int .i64 x.n, .string x.t, .slice pw x.w.length cw] 81)) := (Below.refl _ w).alloc (Nat.le_refl _) _
  have HA := Lib.hid hA
  have HLA := Lib.hid (hL.below hA)
  have HWA := Lib.hid (own_below hw hA)
  have HLn := Lib.hid (len6_pro B M sv dv _ ov pv [] _ (hL.below hA).2.1)
  have L1 := Lib.hid (show ps.length + 1 ≤ maxLen by unfold maxLen; omega)
  have L2 := Lib.hid (show (ps.length + 1) * 56 ≤ 140737488355328 by omega)
  have HPS := Lib.hid hps
  have HBM := Lib.hid hBM
  have HBW := Lib.hid (show B ≤ w.heap.size by omega)
  unfold oprVal
  clear hw hl hpl hL hps
  go_enter Tryz.func159, Tryz.ntmps159
  go_wp2_with fail
  refine HLn.out.mono ?_
  rintro e w1 ⟨rfl, rfl⟩
  obtain ⟨W1, hW1⟩ : ∃ W1, w.alloc (.cells #[.int .i64 x.k, .int .i64 x.n, .string x.t, .slice pw x.w.length cw] 81) = W1 := ⟨_, rfl⟩
  have hX := heap_alloc_new w (.cells #[.int .i64 x.k, .int .i64 x.n, .string x.t, .slice pw x.w.length cw] 81)
  rw [hW1] at HLA HWA HA hX
  obtain ⟨b, hb⟩ : ∃ b, w.heap.size = b := ⟨_, rfl⟩
  have hbl : b < W1.heap.size := by rw [← hb]; exact (Array.getElem?_eq_some_iff.1 hX).1
  rw [hb] at hX
  have hcl : ∀ W2 : World, W2.heap[b]? = some (.cells #[.int .i64 x.k, .int .i64 x.n, .string x.t, .slice pw x.w.length cw] 81) → W2.cell? ⟨b, 0, none⟩ = some (.int .i64 x.k) ∧ W2.cell? ⟨b, 1, none⟩ = some (.int .i64 x.n) ∧ W2.cell? ⟨b, 2, none⟩ = some (.string x.t) ∧ W2.cell? ⟨b, 3, none⟩ = some (.slice pw x.w.length cw) := fun W2 h2 => by
    refine ⟨?_, ?_, ?_, ?_⟩ <;> rw [cell_of_row _ _ _ _ _ _ h2] <;> rfl
  obtain ⟨d0, d1, d2, d3⟩ := hcl W1 hX
  obtain ⟨q3, g3, hlt1, _⟩ := HLA.out.cell3
  have HLD := Lib.hid HLA.out.drew
  have HWD := Lib.hid (show W1.drew.ownsRow B 3 1 (.slice pw x.w.length cw) x.w.length (numsZ x.w) from HWA.out)
  have hB2 : Below W1.drew.heap.size W1.drew (W1.drew.alloc (.cells #[.int .i64 x.k, .int .i64 x.n, .string x.t, .slice pw x.w.length cw] 81)) := (Below.refl _ _).alloc (Nat.le_refl _) _
  have HLE := Lib.hid (HLD.out.below hB2)
  have HWE := Lib.hid (own_below HWD.out hB2)
  have L3 := Lib.hid (show B ≤ (W1.drew.alloc (.cells #[.int .i64 x.k, .int .i64 x.n, .string x.t, .slice pw x.w.length cw] 81)).heap.size by have := HBM.out; simp; omega)
  have HBB := Lib.hid (((HA.out.mono (by rw [← hb] at *; exact HBW.out)).drew).trans (hB2.mono (show B ≤ W1.drew.heap.size by have := HBM.out; show B ≤ W1.heap.size; omega)) : Below B w _)
  have qA : (W1.alloc (.cells #[.int .i64 x.k, .int .i64 x.n, .string x.t, .slice pw x.w.length cw] 81)).cell? ⟨M, 3, none⟩ = some ov := (HLA.out.below ((Below.refl _ W1).alloc (Nat.le_refl _) _)).cell3.1
  have HP := Lib.hid HLA.out.1
  have HKB := Lib.hid (show Kp M w _ from Kp.trans (b := W1) (Kp.below (M := M) HA.out) (Kp.trans (b := W1.drew) (fun k o hk _ _ _ => hk) (Kp.below hB2)))
  have mixed : Tryz.prog.follows .mixedOrders = true := by kernel_rfl
  clear c3 f3 hlt hBM hA hB2 hcl hX
  go_wp2_with fail
  go_region_law (refine step_append_lies _ rfl (.tmp 31) (.tmp 33) 44 rfl B 81 i0 _ 4 56 Tryz.underlying44 hi0 hz0 hz1 hz2 rfl (by decide) ov ps.length (rowsO ps) (by simp [Act.eval]) HLE.out.2.2.1.row ⟨W1.heap.size, 0, none⟩ 1 1 (oprRow (x, .slice pw x.w.length cw)) (by simp [Act.eval]) rfl (cells_newI _ _ _) (oprRow_one x _ rfl) (by decide) L1.out L2.out L3.out _ rfl ?_; intro g' cap w3 hown' hgrow hat _; obtain ⟨l3, o3, k3⟩ := HLE.out.grown HWE.out hgrow hown'; obtain ⟨q0, q1⟩ := l3.cell3; have HS := Lib.hid (LowAt.stored HP.out l3 o3 k3); have HB3 := Lib.hid ((HBB.out.grown hgrow L3.out (fun r e => (own_base HLE.out.2.2.1.row e).1)).setCell (p := ⟨M, 3, none⟩) HBM.out (.slice (some ⟨g', 0, none⟩) (ps.length + 1) cap)); have HKP := Lib.hid ((HKB.out.grown HLE.out.2.2.1.row hgrow).set 3 (.slice (some ⟨g', 0, none⟩) (ps.length + 1) cap)); clear hown' hgrow hat l3 o3 k3)
  all_goals
    go_wp2_with fail
    go_end0
    exact ⟨rfl, ⟨_, _, _, HS.out, by rw [List.map_append, HPS.out]; rfl⟩, HB3.out, HKP.out⟩
end Go.Proofs.YtdagombmgcnofaaGreatDoor.Ir
