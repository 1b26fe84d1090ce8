/- Layer 11: the program's link and piece, where nothing is wrong. -/
import Derived.Test.YtdagombmgcnofaaGreatDoorIm
import Derived.Test.YtdagombmgcnofaaGreatDoorSA
import Derived.Lib.QuietBelow
namespace Go.Proofs.YtdagombmgcnofaaGreatDoor.Ir
open Go.RowKit Go.Maps Go.Proofs.YtdagombmgcnofaaGreatDoor
set_option linter.unusedVariables false
set_option linter.unusedSimpArgs false
/-- The sheet and the directory in memory, and what the library's variables hold. -/
structure Env (w : World) (sv dv : Value) (sheet : List S6.Sty) (dir : List Nd) : Prop where
  sh : S6.Sh w sv sheet
  dr : RdRow 6 NdIs w dv dir
  tb : Tabs w
theorem Env.below {w w' : World} {sv dv : Value} {sheet : List S6.Sty} {dir : List Nd} (h : Env w sv dv sheet dir) (hb : Below w.heap.size w w') : Env w' sv dv sheet dir :=
  ⟨h.sh.below hb, RdRow.below (E := NdIs) (fun h hb => NdIs.below h hb) h.dr hb, h.tb.below hb (Nat.le_refl _)⟩
def stN (sheet : List S6.Sty) (name : ByteArray) : Option Nat := S6.fnd sheet name.data.toList
def lkN (dir : List Nd) (k : Int) (name : ByteArray) : Option Nat := match foundN dir name with
  | none => none
  | some j => if kindAt dir j = k - 3 then some j else none
def op0 (k n : Int) : Opr := ⟨k, n, ByteArray.empty, []⟩
def pieceL (sheet : List S6.Sty) (dir : List Nd) (s : Ls) (p : Pc) : Option Ls :=
  if p.kind = 1 then some ⟨s.ops, s.t ++ p.txt.data.toList⟩
  else if p.kind = 2 then (stN sheet p.name).map fun (n : Nat) => putL s (op0 2 (n : Int))
  else if p.kind = 3 ∨ p.kind = 4 then (lkN dir p.kind p.name).map fun (n : Nat) => putL s (op0 p.kind (n : Int))
  else if p.kind = 5 ∨ p.kind = 6 ∨ p.kind = 7 then some (putL s (op0 p.kind 0))
  else none
theorem bs_of (t : ByteArray) : S6.bs t.data.toList = t := by cases t; simp [S6.bs]
theorem put_pro (B M K : Nat) (sv dv : Value) (dir : List Nd) (s : Ls) (x : Opr) (wv : Value) (w : World) (h : Low B M K sv dv dir s w) (hw : w.ownsRow B 3 1 wv x.w.length (numsZ x.w)) (hl : s.ops.length ≤ 1000000000) :
    Calls Tryz.prog 159 #[.pointer (some ⟨M, 0, none⟩), oprVal x wv] w (lowP B M K sv dv dir (putL s x) (.tuple #[]) w) := by
  obtain ⟨ops, t⟩ := s
  unfold putL
  dsimp only at hl ⊢
  by_cases ht : t = []
  · subst ht
    rw [if_pos rfl]
    exact put0_pro B M K sv dv dir ops x wv w h hw hl
  · rw [if_neg ht]
    exact put1_pro B M K sv dv dir ops t ht x wv w h hw hl
theorem put_bare (B M K : Nat) (sv dv : Value) (dir : List Nd) (s : Ls) (k n : Int) (w : World) (h : Low B M K sv dv dir s w) (hl : s.ops.length ≤ 1000000000) :
    Calls Tryz.prog 159 #[.pointer (some ⟨M, 0, none⟩), .agg #[.int .i64 k, .int .i64 n, .string ⟨#[]⟩, .slice none 0 0]] w (lowP B M K sv dv dir (putL s (op0 k n)) (.tuple #[]) w) :=
  put_pro B M K sv dv dir s (op0 k n) (.slice none 0 0) w h (World.ownsRow_nil _ _ _ _) hl
theorem Low.drewN {B M K : Nat} {sv dv : Value} {dir : List Nd} {s : Ls} {W : World} (h : Low B M K sv dv dir s W) (n : Nat) : Low B M K sv dv dir s (W.drewN n) := h.below ⟨rfl, rfl, rfl, Nat.le_refl _, fun _ _ => rfl⟩
theorem kp_drewN {M : Nat} {a b c : World} {n : Nat} (h : Kp M a b) (k : Kp M (b.drewN n) c) : Kp M a c := h.trans (fun i o hi hm h1 h2 => k i o hi hm h1 h2)
theorem kp_drew {M : Nat} {a b : World} (h : Kp M a b) : Kp M a b.drew := h
theorem drewN_trans {B : Nat} {a b c : World} {n : Nat} (h : Below B a b) (k : Below B (b.drewN n) c) : Below B a c := (⟨h.os, h.tape, h.output, h.size, h.block⟩ : Below B a (b.drewN n)).trans k
theorem Low.cells {B M K : Nat} {sv dv : Value} {dir : List Nd} {s : Ls} {W : World} (h : Low B M K sv dv dir s W) : W.cell? ⟨M, 0, none⟩ = some sv ∧ W.cell? ⟨M, 1, none⟩ = some dv ∧ W.cell? ⟨M, 2, none⟩ = some (.map (some K)) ∧ M < W.heap.size ∧ B ≤ M ∧ FMap W K dir := by
  obtain ⟨ov, pv, ps, ⟨_, ⟨hB, bv, hM, _⟩, _, hK⟩, _⟩ := h
  refine ⟨?_, ?_, ?_, (Array.getElem?_eq_some_iff.1 hM).1, hB, hK⟩ <;> (rw [Lib.cell_of_heap hM]; rfl)
theorem nm_size (name : ByteArray) (h0 : (nrm name).2 = 0) : (nrm name).1.size ≤ maxLen := by
  have h8 := nrm_ok h0
  have h9 : (nrm name).1 = fold name := h8.2.1
  rw [h9]
  have := fold_size name
  unfold maxLen
  omega
set_option maxRecDepth 100000 in
set_option maxHeartbeats 4000000 in
theorem link_pro (w0 : World) (M K : Nat) (sv dv : Value) (sheet : List S6.Sty) (dir : List Nd) (hE : Env w0 sv dv sheet dir) (s : Ls) (p : Pc) (k : Int) (hk : k = 3 ∨ k = 4) (W : World) (hb : Below w0.heap.size w0 W) (h : Low w0.heap.size M K sv dv dir s W) (hl : s.ops.length ≤ 1000000000) (j : Nat) (hj : lkN dir k p.name = some j) :
    Calls Tryz.prog 224 #[.pointer (some ⟨M, 0, none⟩), .int .i64 k, .int .i64 (k - 3), .agg #[.int .i64 p.kind, .string p.txt, .string p.name, .int .i64 p.line, .int .i64 p.col]] W (lowP w0.heap.size M K sv dv dir (putL s (op0 k j)) .nilIface W) := by
  obtain ⟨pa, cap, hdv, h1, h2⟩ := hE.dr.form
  subst hdv
  have hfo : foundN dir p.name = some j ∧ kindAt dir j = k - 3 := by
    unfold lkN at hj
    cases e : foundN dir p.name with
    | none => rw [e] at hj; cases hj
    | some i =>
      rw [e] at hj
      dsimp only at hj
      by_cases e2 : kindAt dir i = k - 3
      · rw [if_pos e2] at hj
        obtain rfl : i = j := Option.some.inj hj
        exact ⟨rfl, e2⟩
      · rw [if_neg e2] at hj
        cases hj
  have hn0 : (nrm p.name).2 = 0 := by
    by_cases e : (nrm p.name).2 = 0
    · exact e
    · have := hfo.1
      rw [found_first, if_neg e] at this
      cases this
  have hfn : firstN dir (nrm p.name).1 = some j := by
    have := hfo.1
    rw [found_first, if_pos hn0] at this
    exact this
  have hjl := first_lt hfn
  have HE := Lib.hid hE
  have HB := Lib.hid hb
  have HL := Lib.hid h
  have HLl := Lib.hid hl
  obtain ⟨kind, t, name, line, col⟩ := p
  dsimp only at hfo hn0 hfn ⊢
  have hA : Below W.heap.size W (W.alloc (.cells #[.int .i64 kind, .string t, .string name, .int .i64 line, .int .i64 col] 109)) := (Below.refl _ _).alloc (Nat.le_refl _) _
  have HA := Lib.hid hA
  have HBA := Lib.hid (hb.trans (hA.mono hb.size))
  have HNP := Lib.hid (norm_pro name _ (hE.tb.below HBA.out (Nat.le_refl _)))
  have HX := Lib.hid (heap_alloc_new W (.cells #[.int .i64 kind, .string t, .string name, .int .i64 line, .int .i64 col] 109))
  have HSZ := Lib.hid (nm_size name hn0)
  obtain ⟨n1, hn1⟩ : ∃ n1, (nrm name).1 = n1 := ⟨_, rfl⟩
  rw [hn1] at HSZ hfn
  have HN0 := Lib.hid hn0
  have HN1 := Lib.hid hn1
  have HFN := Lib.hid hfn
  have HKD := Lib.hid hfo.2
  have HJL := Lib.hid hjl
  have hj1 : (j : Int) < dir.length := by omega
  clear hE hb h hl hj hfo hn0 hfn hjl hn1 hA h1 h2
  go_enter Tryz.func224, Tryz.ntmps224
  go_wp2_with fail
  refine HNP.out.mono ?_
  unfold NormIs
  rintro e w1 ⟨he, hb1⟩
  rw [HN0.out, HN1.out] at he
  subst he
  have HB1 := Lib.hid (HBA.out.trans (hb1.mono HBA.out.size))
  have HBW := Lib.hid ((HA.out.trans (hb1.mono HA.out.size)))
  have HL1 := Lib.hid ((HL.out.below HA.out).below hb1)
  obtain ⟨e0, e1, e2, hML, hBM, hK⟩ := HL1.out.cells
  obtain ⟨n, D, hnn, hown, hF⟩ := hK
  have HO := Lib.hid hown
  have hhas : Maps.has D (.string n1.data.toList) = true := by
    have := hF.has n1
    rw [HFN.out] at this
    exact this
  have HAT := Lib.hid (hF.at_ n1 j HFN.out)
  obtain ⟨b, off, e, hNd⟩ := (RdRow.below (E := NdIs) (fun h hb => NdIs.below h hb) HE.out.dr HB1.out).at_ HJL.out
  subst e
  have c4 := hNd.2.2.2.2.1
  obtain ⟨kd, hkd⟩ : ∃ kd, (dir[j]'HJL.out).kind = kd := ⟨_, rfl⟩
  rw [hkd] at c4
  have hkk : kd = k - 3 := by
    have h9 := HKD.out
    unfold kindAt at h9
    rw [List.getElem?_eq_getElem HJL.out] at h9
    rw [← hkd]
    exact h9
  subst hkk
  have HPT := Lib.hid (fun W2 (h2 : Low w0.heap.size M K sv (.slice (some ⟨b, off, none⟩) dir.length cap) dir s W2) => put_bare w0.heap.size M K sv _ dir s k j W2 h2 HLl.out)
  have HBS := Lib.hid (show w0.heap.size ≤ W.heap.size from HB.out.size)
  clear hb1 hnn hown hF hNd hkd
  go_wp2_with (at_lookup; go_loud (refine wpList_lookup_own_ok_int _ rfl _ _ 215 rfl 9 3 .i64 law Tryz.underlying215 Tryz.underlying3 (zeroI _) K n D rfl HO.out _ _ rfl (Go.WideMaps.keyOf_string_mk Tryz.underlying9 HSZ.out) ?_); intro c hat hwc; have hc : c = (j : Nat) := (by have h9 := hat.symm.trans (HAT.out _); simpa using h9); subst hc; clear hat hwc)
  refine (HPT.out _ HL1.out).mono ?_
  rintro e w2 ⟨rfl, hl2, hb2, hk2⟩
  have HL2 := Lib.hid hl2
  have HB2 := Lib.hid ((HBW.out.mono HBS.out).trans hb2)
  have HK2 := Lib.hid (Kp.trans (Kp.below HBW.out) hk2)
  clear hl2 hb2 hk2
  go_wp2_with fail
  go_ret
  exact ⟨rfl, HL2.out, HB2.out, HK2.out⟩

set_option maxRecDepth 100000 in
set_option maxHeartbeats 4000000 in
theorem piece_k5 (w0 : World) (M K : Nat) (sv dv : Value) (sheet : List S6.Sty) (dir : List Nd) (hE : Env w0 sv dv sheet dir) (s : Ls) (t name : ByteArray) (line col : Int) (W : World) (hb : Below w0.heap.size w0 W) (h : Low w0.heap.size M K sv dv dir s W) (hl : s.ops.length ≤ 1000000000) : Calls Tryz.prog 195 #[.pointer (some ⟨M, 0, none⟩), .agg #[.int .i64 5, .string t, .string name, .int .i64 line, .int .i64 col]] W (lowP w0.heap.size M K sv dv dir (putL s (op0 5 0)) .nilIface W) := by
  have HE := Lib.hid hE
  have HB := Lib.hid hb
  have HLl := Lib.hid hl
  have hA : Below W.heap.size W (W.alloc (.cells #[.int .i64 5, .string t, .string name, .int .i64 line, .int .i64 col] 109)) := (Below.refl _ _).alloc (Nat.le_refl _) _
  have HA := Lib.hid hA
  have HAB := Lib.hid (hA.mono hb.size)
  have HBA := Lib.hid (hb.trans (hA.mono hb.size))
  have HLA := Lib.hid (h.below hA)
  have HPT := Lib.hid (put_bare w0.heap.size M K sv dv dir s 5 0 _ HLA.out hl)
  clear hE hb h hl hA
  go_enter Tryz.func195, Tryz.ntmps195
  go_wp2_with fail
  refine HPT.out.mono ?_
  rintro e w2 ⟨rfl, hl2, hb2, hk2⟩
  have HL2 := Lib.hid hl2
  have HB2 := Lib.hid (HAB.out.trans hb2)
  have HK2 := Lib.hid (Kp.trans (Kp.below HA.out) hk2)
  clear hl2 hb2 hk2
  go_wp2_with fail
  go_ret
  exact ⟨rfl, HL2.out, HB2.out, HK2.out⟩

set_option maxRecDepth 100000 in
set_option maxHeartbeats 4000000 in
theorem piece_k6 (w0 : World) (M K : Nat) (sv dv : Value) (sheet : List S6.Sty) (dir : List Nd) (hE : Env w0 sv dv sheet dir) (s : Ls) (t name : ByteArray) (line col : Int) (W : World) (hb : Below w0.heap.size w0 W) (h : Low w0.heap.size M K sv dv dir s W) (hl : s.ops.length ≤ 1000000000) : Calls Tryz.prog 195 #[.pointer (some ⟨M, 0, none⟩), .agg #[.int .i64 6, .string t, .string name, .int .i64 line, .int .i64 col]] W (lowP w0.heap.size M K sv dv dir (putL s (op0 6 0)) .nilIface W) := by
  have HE := Lib.hid hE
  have HB := Lib.hid hb
  have HLl := Lib.hid hl
  have hA : Below W.heap.size W (W.alloc (.cells #[.int .i64 6, .string t, .string name, .int .i64 line, .int .i64 col] 109)) := (Below.refl _ _).alloc (Nat.le_refl _) _
  have HA := Lib.hid hA
  have HAB := Lib.hid (hA.mono hb.size)
  have HBA := Lib.hid (hb.trans (hA.mono hb.size))
  have HLA := Lib.hid (h.below hA)
  have HPT := Lib.hid (put_bare w0.heap.size M K sv dv dir s 6 0 _ HLA.out hl)
  clear hE hb h hl hA
  go_enter Tryz.func195, Tryz.ntmps195
  go_wp2_with fail
  refine HPT.out.mono ?_
  rintro e w2 ⟨rfl, hl2, hb2, hk2⟩
  have HL2 := Lib.hid hl2
  have HB2 := Lib.hid (HAB.out.trans hb2)
  have HK2 := Lib.hid (Kp.trans (Kp.below HA.out) hk2)
  clear hl2 hb2 hk2
  go_wp2_with fail
  go_ret
  exact ⟨rfl, HL2.out, HB2.out, HK2.out⟩

set_option maxRecDepth 100000 in
set_option maxHeartbeats 4000000 in
theorem piece_k7 (w0 : World) (M K : Nat) (sv dv : Value) (sheet : List S6.Sty) (dir : List Nd) (hE : Env w0 sv dv sheet dir) (s : Ls) (t name : ByteArray) (line col : Int) (W : World) (hb : Below w0.heap.size w0 W) (h : Low w0.heap.size M K sv dv dir s W) (hl : s.ops.length ≤ 1000000000) : Calls Tryz.prog 195 #[.pointer (some ⟨M, 0, none⟩), .agg #[.int .i64 7, .string t, .string name, .int .i64 line, .int .i64 col]] W (lowP w0.heap.size M K sv dv dir (putL s (op0 7 0)) .nilIface W) := by
  have HE := Lib.hid hE
  have HB := Lib.hid hb
  have HLl := Lib.hid hl
  have hA : Below W.heap.size W (W.alloc (.cells #[.int .i64 7, .string t, .string name, .int .i64 line, .int .i64 col] 109)) := (Below.refl _ _).alloc (Nat.le_refl _) _
  have HA := Lib.hid hA
  have HAB := Lib.hid (hA.mono hb.size)
  have HBA := Lib.hid (hb.trans (hA.mono hb.size))
  have HLA := Lib.hid (h.below hA)
  have HPT := Lib.hid (put_bare w0.heap.size M K sv dv dir s 7 0 _ HLA.out hl)
  clear hE hb h hl hA
  go_enter Tryz.func195, Tryz.ntmps195
  go_wp2_with fail
  refine HPT.out.mono ?_
  rintro e w2 ⟨rfl, hl2, hb2, hk2⟩
  have HL2 := Lib.hid hl2
  have HB2 := Lib.hid (HAB.out.trans hb2)
  have HK2 := Lib.hid (Kp.trans (Kp.below HA.out) hk2)
  clear hl2 hb2 hk2
  go_wp2_with fail
  go_ret
  exact ⟨rfl, HL2.out, HB2.out, HK2.out⟩

set_option maxRecDepth 100000 in
set_option maxHeartbeats 4000000 in
theorem piece_k3 (w0 : World) (M K : Nat) (sv dv : Value) (sheet : List S6.Sty) (dir : List Nd) (hE : Env w0 sv dv sheet dir) (s : Ls) (t name : ByteArray) (line col : Int) (W : World) (hb : Below w0.heap.size w0 W) (h : Low w0.heap.size M K sv dv dir s W) (hl : s.ops.length ≤ 1000000000) (j : Nat) (hj : lkN dir 3 name = some j) : Calls Tryz.prog 195 #[.pointer (some ⟨M, 0, none⟩), .agg #[.int .i64 3, .string t, .string name, .int .i64 line, .int .i64 col]] W (lowP w0.heap.size M K sv dv dir (putL s (op0 3 j)) .nilIface W) := by
  have HE := Lib.hid hE
  have HB := Lib.hid hb
  have HLl := Lib.hid hl
  have hA : Below W.heap.size W (W.alloc (.cells #[.int .i64 3, .string t, .string name, .int .i64 line, .int .i64 col] 109)) := (Below.refl _ _).alloc (Nat.le_refl _) _
  have HA := Lib.hid hA
  have HAB := Lib.hid (hA.mono hb.size)
  have HBA := Lib.hid (hb.trans (hA.mono hb.size))
  have HLA := Lib.hid (h.below hA)
  have HPT := Lib.hid (link_pro w0 M K sv dv sheet dir hE s ⟨3, t, name, line, col⟩ 3 (by decide) _ HBA.out HLA.out hl j hj)
  rw [show (3 : Int) - 3 = 0 by decide] at HPT
  dsimp only at HPT
  clear hj
  clear hE hb h hl hA
  go_enter Tryz.func195, Tryz.ntmps195
  go_wp2_with fail
  refine HPT.out.mono ?_
  rintro e w2 ⟨rfl, hl2, hb2, hk2⟩
  have HL2 := Lib.hid hl2
  have HB2 := Lib.hid (HAB.out.trans hb2)
  have HK2 := Lib.hid (Kp.trans (Kp.below HA.out) hk2)
  clear hl2 hb2 hk2
  go_wp2_with fail
  go_ret
  exact ⟨rfl, HL2.out, HB2.out, HK2.out⟩

set_option maxRecDepth 100000 in
set_option maxHeartbeats 4000000 in
theorem piece_k4 (w0 : World) (M K : Nat) (sv dv : Value) (sheet : List S6.Sty) (dir : List Nd) (hE : Env w0 sv dv sheet dir) (s : Ls) (t name : ByteArray) (line col : Int) (W : World) (hb : Below w0.heap.size w0 W) (h : Low w0.heap.size M K sv dv dir s W) (hl : s.ops.length ≤ 1000000000) (j : Nat) (hj : lkN dir 4 name = some j) : Calls Tryz.prog 195 #[.pointer (some ⟨M, 0, none⟩), .agg #[.int .i64 4, .string t, .string name, .int .i64 line, .int .i64 col]] W (lowP w0.heap.size M K sv dv dir (putL s (op0 4 j)) .nilIface W) := by
  have HE := Lib.hid hE
  have HB := Lib.hid hb
  have HLl := Lib.hid hl
  have hA : Below W.heap.size W (W.alloc (.cells #[.int .i64 4, .string t, .string name, .int .i64 line, .int .i64 col] 109)) := (Below.refl _ _).alloc (Nat.le_refl _) _
  have HA := Lib.hid hA
  have HAB := Lib.hid (hA.mono hb.size)
  have HBA := Lib.hid (hb.trans (hA.mono hb.size))
  have HLA := Lib.hid (h.below hA)
  have HPT := Lib.hid (link_pro w0 M K sv dv sheet dir hE s ⟨4, t, name, line, col⟩ 4 (by decide) _ HBA.out HLA.out hl j hj)
  rw [show (4 : Int) - 3 = 1 by decide] at HPT
  dsimp only at HPT
  clear hj
  clear hE hb h hl hA
  go_enter Tryz.func195, Tryz.ntmps195
  go_wp2_with fail
  refine HPT.out.mono ?_
  rintro e w2 ⟨rfl, hl2, hb2, hk2⟩
  have HL2 := Lib.hid hl2
  have HB2 := Lib.hid (HAB.out.trans hb2)
  have HK2 := Lib.hid (Kp.trans (Kp.below HA.out) hk2)
  clear hl2 hb2 hk2
  go_wp2_with fail
  go_ret
  exact ⟨rfl, HL2.out, HB2.out, HK2.out⟩

set_option maxRecDepth 100000 in
set_option maxHeartbeats 4000000 in
theorem piece_k2 (w0 : World) (M K : Nat) (sv dv : Value) (sheet : List S6.Sty) (dir : List Nd) (hE : Env w0 sv dv sheet dir) (s : Ls) (t name : ByteArray) (line col : Int) (W : World) (hb : Below w0.heap.size w0 W) (h : Low w0.heap.size M K sv dv dir s W) (hl : s.ops.length ≤ 1000000000) (j : Nat) (hj : stN sheet name = some j) : Calls Tryz.prog 195 #[.pointer (some ⟨M, 0, none⟩), .agg #[.int .i64 2, .string t, .string name, .int .i64 line, .int .i64 col]] W (lowP w0.heap.size M K sv dv dir (putL s (op0 2 j)) .nilIface W) := by
  have HE := Lib.hid hE
  have HB := Lib.hid hb
  have HLl := Lib.hid hl
  have hA : Below W.heap.size W (W.alloc (.cells #[.int .i64 2, .string t, .string name, .int .i64 line, .int .i64 col] 109)) := (Below.refl _ _).alloc (Nat.le_refl _) _
  have HA := Lib.hid hA
  have HAB := Lib.hid (hA.mono hb.size)
  have HBA := Lib.hid (hb.trans (hA.mono hb.size))
  have HLA := Lib.hid (h.below hA)
  have HPT := Lib.hid (fun W2 (h2 : Low w0.heap.size M K sv dv dir s W2) => put_bare w0.heap.size M K sv dv dir s 2 j W2 h2 hl)
  have HFi := Lib.hid (fun (q : Nat) => (S6.find_pro sheet name.data.toList sv ((W.alloc (.cells #[.int .i64 2, .string t, .string name, .int .i64 line, .int .i64 col] 109)).drewN q) (hE.sh.below (HBA.out.trans ⟨rfl, rfl, rfl, Nat.le_refl _, fun _ _ => rfl⟩))).mono (fun e w2 he => (⟨he.1, he.2.symm⟩ : e = .returned (S6.fndV (S6.fnd sheet name.data.toList)) ∧ w2 = _)))
  rw [show S6.fnd sheet name.data.toList = some j from hj, bs_of] at HFi
  unfold S6.fndV at HFi
  dsimp only [Option.getD, Option.isSome] at HFi
  obtain ⟨e0, e1, e2, hML, hBM, _⟩ := HLA.out.cells
  obtain ⟨pa, cap, hsv, _, _⟩ := hE.sh.form
  subst hsv
  have mixed : Tryz.prog.follows .mixedOrders = true := by kernel_rfl
  clear hj
  clear hE hb h hl hA
  go_enter Tryz.func195, Tryz.ntmps195
  go_wp2_with fail
  go_quiet ((go_at_call 148; with_reducible exact Calls.quiet_of_same (HFi.out _)))
  go_wp2_with fail
  refine (HPT.out _ (Low.drewN HLA.out _)).mono ?_
  rintro e w2 ⟨rfl, hl2, hb2, hk2⟩
  have HL2 := Lib.hid hl2
  have HB2 := Lib.hid (drewN_trans HAB.out hb2)
  have HK2 := Lib.hid (kp_drewN (Kp.below HA.out) hk2)
  clear hl2 hb2 hk2
  go_wp2_with fail
  go_ret
  exact ⟨rfl, HL2.out, HB2.out, HK2.out⟩

set_option maxRecDepth 100000 in
set_option maxHeartbeats 4000000 in
theorem piece_k1 (w0 : World) (M K : Nat) (sv dv : Value) (sheet : List S6.Sty) (dir : List Nd) (hE : Env w0 sv dv sheet dir) (s : Ls) (t name : ByteArray) (line col : Int) (W : World) (hb : Below w0.heap.size w0 W) (h : Low w0.heap.size M K sv dv dir s W) (hl : s.ops.length ≤ 1000000000) (ht : s.t.length + t.size ≤ 140737488355328) : Calls Tryz.prog 195 #[.pointer (some ⟨M, 0, none⟩), .agg #[.int .i64 1, .string t, .string name, .int .i64 line, .int .i64 col]] W (lowP w0.heap.size M K sv dv dir ⟨s.ops, s.t ++ t.data.toList⟩ .nilIface W) := by
  have HE := Lib.hid hE
  have HB := Lib.hid hb
  have HLl := Lib.hid hl
  have hA : Below W.heap.size W (W.alloc (.cells #[.int .i64 1, .string t, .string name, .int .i64 line, .int .i64 col] 109)) := (Below.refl _ _).alloc (Nat.le_refl _) _
  have HA := Lib.hid hA
  have HAB := Lib.hid (hA.mono hb.size)
  have HBA := Lib.hid (hb.trans (hA.mono hb.size))
  have HLA := Lib.hid (h.below hA)
  obtain ⟨ov, pv, ps, hLow, hps⟩ := HLA.out
  have HLow := Lib.hid hLow.drew
  have HPS := Lib.hid hps
  have HWr := Lib.hid (write6_pro w0.heap.size M sv dv _ ov pv s.t t _ HLow.out.2.1 HLow.out.1 ht (show w0.heap.size ≤ (W.alloc (.cells #[.int .i64 1, .string t, .string name, .int .i64 line, .int .i64 col] 109)).heap.size from HBA.out.size))
  have mixed : Tryz.prog.follows .mixedOrders = true := by kernel_rfl
  clear ht hLow hps
  clear hE hb h hl hA
  go_enter Tryz.func195, Tryz.ntmps195
  go_wp2_with fail
  go_region_law (go_simp; go_at_call 77; refine HWr.out.mono ?_; rintro e w2 ⟨rfl, hbt⟩; have H2 := Lib.hid (HLow.out.built hbt (.inr rfl)); have HB2 := Lib.hid (HAB.out.drew.trans hbt.2.1); have HK2 := Lib.hid (Kp.others (kp_drew (Kp.below HA.out)) hbt.2.2); clear hbt)
  all_goals
    go_wp2_with fail
    go_ret
    exact ⟨rfl, ⟨_, _, _, H2.out, HPS.out⟩, HB2.out, HK2.out⟩

theorem piece_pro (w0 : World) (M K : Nat) (sv dv : Value) (sheet : List S6.Sty) (dir : List Nd) (hE : Env w0 sv dv sheet dir) (s s' : Ls) (p : Pc) (W : World) (hb : Below w0.heap.size w0 W) (h : Low w0.heap.size M K sv dv dir s W) (hl : s.ops.length ≤ 1000000000) (ht : s.t.length + p.txt.size ≤ 140737488355328) (hp : pieceL sheet dir s p = some s') :
    Calls Tryz.prog 195 #[.pointer (some ⟨M, 0, none⟩), .agg #[.int .i64 p.kind, .string p.txt, .string p.name, .int .i64 p.line, .int .i64 p.col]] W (lowP w0.heap.size M K sv dv dir s' .nilIface W) := by
  obtain ⟨k, t, name, line, col⟩ := p
  dsimp only at ht ⊢
  unfold pieceL at hp
  dsimp only at hp
  by_cases h1 : k = 1
  · subst h1
    rw [if_pos rfl] at hp
    obtain rfl := Option.some.inj hp
    exact piece_k1 w0 M K sv dv sheet dir hE s t name line col W hb h hl ht
  rw [if_neg h1] at hp
  by_cases h2 : k = 2
  · subst h2
    rw [if_pos rfl] at hp
    obtain ⟨j, hj, rfl⟩ := Option.map_eq_some_iff.1 hp
    exact piece_k2 w0 M K sv dv sheet dir hE s t name line col W hb h hl j hj
  rw [if_neg h2] at hp
  by_cases h3 : k = 3 ∨ k = 4
  · rw [if_pos h3] at hp
    obtain ⟨j, hj, rfl⟩ := Option.map_eq_some_iff.1 hp
    rcases h3 with rfl | rfl
    · exact piece_k3 w0 M K sv dv sheet dir hE s t name line col W hb h hl j hj
    · exact piece_k4 w0 M K sv dv sheet dir hE s t name line col W hb h hl j hj
  rw [if_neg h3] at hp
  by_cases h5 : k = 5 ∨ k = 6 ∨ k = 7
  · rw [if_pos h5] at hp
    obtain rfl := Option.some.inj hp
    rcases h5 with rfl | rfl | rfl
    · exact piece_k5 w0 M K sv dv sheet dir hE s t name line col W hb h hl
    · exact piece_k6 w0 M K sv dv sheet dir hE s t name line col W hb h hl
    · exact piece_k7 w0 M K sv dv sheet dir hE s t name line col W hb h hl
  · rw [if_neg h5] at hp
    cases hp
end Go.Proofs.YtdagombmgcnofaaGreatDoor.Ir
